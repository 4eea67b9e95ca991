/- What the reference's CollapsePairs answers. -/
import Derived.Test.YthdmfeidcldafaaGreatDoorMorseRef3
namespace Go.Proofs.YthdmfeidcldafaaGreatDoor
open Go.RowKit Go.Sort

/-- A pair that may be taken; what is left then. -/
def FreeP (L : List (List Int)) (left : Nat → Bool) (p : Duo) : Prop := ∃ a k : Nat, p = ((a : Int), (k : Int)) ∧ a < L.length ∧ left a = true ∧ grL L left a = [k]
def lessP (left : Nat → Bool) (p : Duo) : Nat → Bool := less (less left p.2.toNat) p.1.toNat
def leftBy (left : Nat → Bool) (ps : List Duo) : Nat → Bool := ps.foldl lessP left
def Goes (L : List (List Int)) : (Nat → Bool) → List Duo → Prop
  | _, [] => True
  | left, p :: ps => FreeP L left p ∧ Goes L (lessP left p) ps
theorem goes_snoc {L : List (List Int)} : ∀ {ps : List Duo} {left : Nat → Bool} {p : Duo}, Goes L left (ps ++ [p]) ↔ Goes L left ps ∧ FreeP L (leftBy left ps) p
  | [], left, p => by simp [Goes, leftBy]
  | q :: ps, left, p => by
    have h := goes_snoc (L := L) (ps := ps) (left := lessP left q) (p := p)
    show FreeP L left q ∧ Goes L (lessP left q) (ps ++ [p]) ↔ (FreeP L left q ∧ Goes L (lessP left q) ps) ∧ _
    rw [h, and_assoc]
    exact Iff.rfl
theorem leftBy_snoc (left : Nat → Bool) (ps : List Duo) (p : Duo) : leftBy left (ps ++ [p]) = lessP (leftBy left ps) p := by unfold leftBy; rw [List.foldl_append]; rfl
theorem less_swap (left : Nat → Bool) (a k : Nat) : less (less left a) k = less (less left k) a := by
  funext i
  unfold less
  by_cases h1 : i = k
  · by_cases h2 : i = a <;> simp [h1]
  · by_cases h2 : i = a <;> simp [h1, h2]
theorem take_duo {ps : List Duo} {k : Nat} (h : k < ps.length) : ps.take (k + 1) = ps.take k ++ [ps[k]] := by rw [List.take_add_one, List.getElem?_eq_getElem h]; rfl

/-- The faces that are left. -/
def leftTo (L : List (List Int)) (left : Nat → Bool) (k : Nat) : List (List Int) := ((List.range k).filter left).map (faceAt L)
theorem leftTo_yes {L : List (List Int)} {left : Nat → Bool} {k : Nat} (h : left k = true) : leftTo L left (k + 1) = leftTo L left k ++ [faceAt L k] := by unfold leftTo; rw [List.range_succ, List.filter_append, List.map_append]; simp [h]
theorem leftTo_no {L : List (List Int)} {left : Nat → Bool} {k : Nat} (h : left k = false) : leftTo L left (k + 1) = leftTo L left k := by unfold leftTo; rw [List.range_succ, List.filter_append, List.map_append]; simp [h]
theorem leftTo_len (L : List (List Int)) (left : Nat → Bool) (k : Nat) : (leftTo L left k).length ≤ k := by
  unfold leftTo
  rw [List.length_map]
  refine Nat.le_trans (List.length_filter_le _ _) ?_
  rw [List.length_range]; exact Nat.le_refl _

/-- Marks that one may store into. -/
def MarksOwn (W : World) (g cap n : Nat) (left : Nat → Bool) : Prop := ∃ f, W.rowIs g 4 cap f ∧ n ≤ cap ∧ ∀ j, j < n → f j = .bool (left j)
theorem MarksOwn.at {W : World} {g cap n : Nat} {left : Nat → Bool} (h : MarksOwn W g cap n left) : MarksAt W g n left := fun i hi => by
  obtain ⟨f, h1, h2, h3⟩ := h
  rw [h1.cell (by omega), h3 i hi]
theorem MarksOwn.off {W : World} {g cap n : Nat} {left : Nat → Bool} (h : MarksOwn W g cap n left) {k : Nat} (_hk : k < n) : MarksOwn (W.setCell ⟨g, k, none⟩ (.bool false)) g cap n (less left k) := by
  obtain ⟨f, h1, h2, h3⟩ := h
  refine ⟨_, h1.set k (.bool false), h2, fun j hj => ?_⟩
  unfold less
  by_cases e : j = k
  · simp [e]
  · simp [e, h3 j hj]
theorem MarksOwn.below {W W' : World} {g cap n : Nat} {left : Nat → Bool} (h : MarksOwn W g cap n left) (hB : Below W.heap.size W W') : MarksOwn W' g cap n left := by
  obtain ⟨f, h1, h2, h3⟩ := h
  exact ⟨f, h1.of_block (hB.block g h1.lt), h2, h3⟩
theorem MarksOwn.of {base : Nat} {W : World} {g cap n : Nat} {v : Value} (h : W.ownsRow base 4 1 v n (List.replicate n (.bool true))) (e : v = .slice (some ⟨g, 0, none⟩) n cap) : MarksOwn W g cap n allL := by
  subst e
  rcases h.2 with ⟨h1, _⟩ | ⟨g', cap', cur, h1, h2, h3, h4, h5, h6, h7⟩
  · cases h1
  · cases h1
    refine ⟨fun j => cur[j]?.getD (.bool false), ⟨cur, h3, by rw [h6]; omega, fun i hi => ?_⟩, h4, fun j hj => ?_⟩
    · show cur[i]? = some (cur[i]?.getD (.bool false)); rw [Array.getElem?_eq_getElem (by omega)]; rfl
    · show cur[j]?.getD (.bool false) = .bool true
      have hc : cur.toList[j]? = some (.bool true) := by
        have : (cur.toList.take (n * 1))[j]? = some (.bool true) := by rw [h7, List.getElem?_replicate, if_pos hj]
        rwa [List.getElem?_take, if_pos (by omega)] at this
      rw [Array.getElem?_toList] at hc
      rw [hc]; rfl
theorem marks_open {base : Nat} {W : World} {n : Nat} {v : Value} (h : W.ownsRow base 4 1 v n (List.replicate n (.bool true))) : ∃ al cap, v = .slice al n cap ∧ (0 < n → ∃ g, al = some ⟨g, 0, none⟩ ∧ base ≤ g) ∧ ∀ g, al = some ⟨g, 0, none⟩ → MarksOwn W g cap n allL := by
  have h0 := h
  rcases h.2 with ⟨rfl, rfl⟩ | ⟨g, cap, cur, rfl, hb, _⟩
  · exact ⟨none, 0, rfl, fun h => absurd h (by omega), fun g e => by cases e⟩
  · exact ⟨_, cap, rfl, fun _ => ⟨g, rfl, hb⟩, fun g' e => by cases e; exact MarksOwn.of h0 rfl⟩

/-- What CollapsePairs answers. -/
def CollSays (L : List (List Int)) (ps : List Duo) (w : World) (e : Ending) (w' : World) : Prop :=
  Below w.heap.size w w' ∧ ((Goes L allL ps ∧ ∃ v, e = .returned (.tuple #[v, .int .i64 (-1)]) ∧ Rows w' v (leftTo L (leftBy allL ps) L.length)) ∨
    ∃ k, ∃ h : k < ps.length, Goes L allL (ps.take k) ∧ ¬ FreeP L (leftBy allL (ps.take k)) ps[k] ∧ e = .returned (.tuple #[.slice none 0 0, .int .i64 (k : Int)]))

set_option maxRecDepth 100000 in
set_option maxHeartbeats 4000000 in
theorem collapse_pairs {L : List (List Int)} (vL vp : Value) (ps : List Duo) (w : World) (hL : Rows w vL L) (hp : DuoIn anyBlock w vp ps) (hL6 : L.length ≤ 1000) (hps : ps.length ≤ 1000) (hx : ∀ x ∈ L, x.length ≤ 1000) :
    Calls Tryz.prog 17 #[vL, vp] w fun e w' => CollSays L ps w e w' := by
  obtain ⟨i0, hi0, hz0, hz1, hz2⟩ := info_parts Tryz.info51
  have hal := all_left L.length hL6 w
  have HGR : Hid (∀ (left : Nat → Bool) (g cl i : Nat) (W : World), i < L.length → Below w.heap.size w W → MarksAt W g L.length left → Calls Tryz.prog 33 #[vL, .slice (some ⟨g, 0, none⟩) L.length cl, .int .i64 (i : Int)] W fun e w' => e = .returned (.tuple #[.int .i64 (lastI (grL L left i)), .int .i64 ((grL L left i).length : Int)]) ∧ Below W.heap.size W w') := fun left g cl i W hi hW hm => greater_ vL g cl i W (hL.below hW) hm hi hL6 hx
  have HLW : Hid (Rows w vL L) := hL
  obtain ⟨aL, cL, rfl, -, hrows⟩ := (rowsIn_of hL).open_
  have HRO := Hid.mk' hrows
  obtain ⟨ap, cp, rfl, hpr⟩ := hp
  have HPR := Hid.mk' hpr
  obtain ⟨n, hn⟩ : ∃ n, L.length = n := ⟨_, rfl⟩
  have HNN : Hid (L.length = n) := hn
  obtain ⟨m, hm⟩ : ∃ m, ps.length = m := ⟨_, rfl⟩
  have HMM : Hid (ps.length = m) := hm
  rw [hn] at HGR hL6 hal ⊢
  rw [hm] at hps ⊢
  clear hL hx hn hm hpr hrows
  go_enter Tryz.func17, Tryz.ntmps17
  go_wp2_with (first
    | (go_at_call 16; refine hal.mono ?_; rintro e V ⟨v, rfl, hown, hB0⟩; obtain ⟨al, cl, rfl, hal0, hmk⟩ := marks_open hown; have HAL : Hid ((0 < n → ∃ g, al = some ⟨g, 0, none⟩ ∧ w.heap.size ≤ g) ∧ (∀ g, al = some ⟨g, 0, none⟩ → MarksOwn V g cl n allL) ∧ Below w.heap.size w V) := ⟨hal0, hmk, hB0⟩; clear hal0 hmk hB0 hown hal)
    | fail)
  go_loopw [7] (fun p W => ∃ k : Nat, k ≤ m ∧ p = .int .i64 k ∧ Hid (Goes L allL (ps.take k) ∧ (∀ g, al = some ⟨g, 0, none⟩ → MarksOwn W g cl n (leftBy allL (ps.take k))) ∧ Below w.heap.size w W)) (fun p _ => m - (intOf p).toNat)
  case atStart => exact ⟨0, by omega, rfl, trivial, fun g e => by rw [List.take_zero]; exact HAL.out.2.1 g e, HAL.out.2.2⟩
  case round =>
    obtain ⟨k, hk, rfl, HK⟩ := hrel
    by_cases hkm : k < m
    · have hkp : k < ps.length := by rw [HMM.out]; exact hkm
      obtain ⟨gp, op, rfl, -, hgp, hpc⟩ := HPR.out (by omega)
      have hp2 := hpc k hkp
      obtain ⟨pa, pb, hpq⟩ : ∃ pa pb, ps[k] = (pa, pb) := ⟨_, _, rfl⟩
      rw [hpq] at hp2
      have p0 := (HK.out.2.2.cell (p := ⟨gp, op + k * 2, none⟩) hgp).trans hp2.1
      have p1 : wr.cell? ⟨gp, op + k * 2 + 1, none⟩ = some (.int .i64 pb) := (HK.out.2.2.cell (p := ⟨gp, op + (k * 2 + 1), none⟩) hgp).trans hp2.2
      have HPQ : Hid (ps[k] = (pa, pb)) := hpq
      have HB1 : Hid (Goes L allL (ps.take k) ∧ Below w.heap.size w wr) := ⟨HK.out.1, HK.out.2.2⟩
      obtain ⟨left, hleft⟩ : ∃ left, leftBy allL (ps.take k) = left := ⟨_, rfl⟩
      have HLE : Hid (leftBy allL (ps.take k) = left) := hleft
      have z2 : (k : Int) < (m : Int) := by omega
      clear hpc hp2 hpq
      by_cases hra : 0 ≤ pa ∧ pa < (n : Int)
      · obtain ⟨a, rfl⟩ : ∃ a : Nat, pa = (a : Int) := ⟨pa.toNat, by omega⟩
        have han : a < n := by omega
        obtain ⟨g, rfl, hgb⟩ := HAL.out.1 (by omega)
        have hmo := HK.out.2.1 g rfl
        rw [hleft] at hmo
        have HMO : Hid (MarksOwn wr g cl n left) := hmo
        have la := hmo.at a han
        have hgw : g < wr.heap.size := cell_lt la
        have z0 : (0 : Int) ≤ (a : Int) := by omega
        have z1 : (a : Int) < (n : Int) := by omega
        obtain ⟨lb, hlb⟩ : ∃ lb, left a = lb := ⟨_, rfl⟩
        have HLB : Hid (left a = lb) := hlb
        rw [hlb] at la
        have hg := HGR.out left g cl a wr han HK.out.2.2 hmo.at
        clear hmo hlb hleft
        cases lb
        · go_wp2_with fail
          go_ret2
          refine ⟨HB1.out.2, .inr ⟨k, hkp, HB1.out.1, fun hf => ?_, rfl⟩⟩
          obtain ⟨a', k', e, _, h3, _⟩ := hf
          rw [HPQ.out] at e
          have : a' = a := by have := congrArg Prod.fst e; simp only at this; omega
          subst this
          rw [HLE.out, HLB.out] at h3
          cases h3
        · by_cases h1 : (grL L left a).length = 1
          · obtain ⟨q, hq⟩ := one_ex h1
            have HQ : Hid (grL L left a = [q]) := hq
            rw [hq, show lastI [q] = (q : Int) from rfl, show (([q] : List Nat).length : Int) = 1 from rfl] at hg
            have hqn : q < n := by rw [← HNN.out]; exact (gr_mem.1 ((gr_one.1 hq q).2 rfl)).1
            have zq : (q : Int) < (n : Int) := by omega
            have zq0 : (0 : Int) ≤ (q : Int) := by omega
            have hsz := HK.out.2.2.size
            clear h1 hq
            by_cases hqb : (q : Int) = pb
            · have HQB : Hid ((q : Int) = pb) := hqb
              subst hqb
              go_wp2_with (first
                | (go_at_call 33; refine hg.mono ?_; rintro e V2 ⟨rfl, hV⟩; have HV : Hid (Below wr.heap.size wr V2) := hV; have p1 := (hV.cell (p := ⟨gp, op + k * 2 + 1, none⟩) (cell_lt p1)).trans p1; have hmo := HMO.out.below hV; have HMO2 : Hid (MarksOwn V2 g cl n left) := hmo; obtain ⟨fm, hm1, hm2, hm3⟩ := hmo; have fr := hm1.frozen a; have fr2 := (hm1.set a (.bool false)).frozen q; have ca := hm1.cell (i := a) (by omega); have cq := (hm1.set a (.bool false)).cell (i := q) (by omega); have hszV := hV.size; clear hm1 hm3 hV hg)
                | fail)
              go_roundw
              case rel =>
                refine ⟨k + 1, by omega, by go_num, ?_, fun g' e => ?_, ?_⟩
                · rw [take_duo hkp]
                  exact goes_snoc.2 ⟨HB1.out.1, a, q, HPQ.out, by rw [HNN.out]; exact han, by rw [HLE.out]; exact HLB.out, by rw [HLE.out]; exact HQ.out⟩
                · cases e
                  rw [take_duo hkp, leftBy_snoc, HLE.out, HPQ.out]
                  show MarksOwn _ g cl n (less (less left q) a)
                  rw [← less_swap]
                  exact (HMO2.out.off han).off hqn
                · exact ((HB1.out.2.trans (HV.out.mono hsz)).grown (grown_one _ _ _) (by omega) (fun b e => by cases e; exact hgb)).grown (grown_one _ _ _) (by simp; omega) (fun b e => by cases e; exact hgb)
              case measure => simp [intOf]; omega
            · have hne : ((q : Int) != pb) = true := by simpa using hqb
              go_wp2_with (first
                | (go_at_call 33; refine hg.mono ?_; rintro e V2 ⟨rfl, hV⟩; have HV : Hid (Below wr.heap.size wr V2) := hV; have p1 := (hV.cell (p := ⟨gp, op + k * 2 + 1, none⟩) (cell_lt p1)).trans p1; clear hV hg)
                | fail)
              go_ret2
              refine ⟨HB1.out.2.trans (HV.out.mono hsz), .inr ⟨k, hkp, HB1.out.1, fun hf => ?_, rfl⟩⟩
              obtain ⟨a', k', e, _, _, h4⟩ := hf
              rw [HPQ.out] at e
              have e1 : a' = a := by have := congrArg Prod.fst e; simp only at this; omega
              subst e1
              rw [HLE.out, HQ.out] at h4
              cases h4
              exact hqb (congrArg Prod.snd e).symm
          · obtain ⟨gn, hgn⟩ : ∃ gn : Int, ((grL L left a).length : Int) = gn := ⟨_, rfl⟩
            have hg1 : (gn != 1) = true := by have : gn ≠ 1 := by omega
                                              simpa using this
            obtain ⟨ll, hla⟩ : ∃ la, lastI (grL L left a) = la := ⟨_, rfl⟩
            rw [hgn, hla] at hg
            have HN1 : Hid (¬ (grL L left a).length = 1) := h1
            have hsz := HK.out.2.2.size
            clear hgn hla h1
            go_wp2_with (first
              | (go_at_call 33; refine hg.mono ?_; rintro e V2 ⟨rfl, hV⟩; have HV : Hid (Below wr.heap.size wr V2) := hV; clear hV hg)
              | fail)
            go_ret2
            refine ⟨HB1.out.2.trans (HV.out.mono hsz), .inr ⟨k, hkp, HB1.out.1, fun hf => ?_, rfl⟩⟩
            obtain ⟨a', k', e, _, _, h4⟩ := hf
            rw [HPQ.out] at e
            have e1 : a' = a := by have := congrArg Prod.fst e; simp only at this; omega
            subst e1
            rw [HLE.out] at h4
            exact HN1.out (by rw [h4]; rfl)
      · have HNF : Hid (¬ FreeP L (leftBy allL (ps.take k)) ps[k]) := fun hf => by
          obtain ⟨a', k', e, h2, _, _⟩ := hf
          rw [HPQ.out] at e
          have := congrArg Prod.fst e
          simp only at this
          rw [HNN.out] at h2
          omega
        clear hleft
        by_cases hr0 : pa < 0
        · go_wp2_with fail
          go_ret2
          exact ⟨HB1.out.2, .inr ⟨k, hkp, HB1.out.1, HNF.out, rfl⟩⟩
        · have hr1 : (n : Int) ≤ pa := by omega
          go_wp2_with fail
          go_ret2
          exact ⟨HB1.out.2, .inr ⟨k, hkp, HB1.out.1, HNF.out, rfl⟩⟩
    · obtain rfl : k = m := by omega
      have HG : Hid (Goes L allL ps) := by
        have := HK.out.1
        rw [← HMM.out, List.take_length] at this
        exact this
      obtain ⟨left, hleft⟩ : ∃ left, leftBy allL ps = left := ⟨_, rfl⟩
      have HLE : Hid (leftBy allL ps = left) := hleft
      have HK2 : Hid ((∀ g, al = some ⟨g, 0, none⟩ → MarksOwn wr g cl n left) ∧ Below w.heap.size w wr) := by
        refine ⟨fun g e => ?_, HK.out.2.2⟩
        have := HK.out.2.1 g e
        rw [← HMM.out, List.take_length, hleft] at this
        exact this
      clear hleft
      go_wp2_with fail
      go_loopw [11, 12] (fun v p W => ∃ (j : Nat) (us : List Value), j ≤ n ∧ p = .int .i64 j ∧ Hid (W.ownsRow wr.heap.size 51 1 v us.length us ∧ HeadsS (fun b => b < w.heap.size) w us (leftTo L left j) ∧ Below wr.heap.size wr W)) (fun _ p _ => n - (intOf p).toNat)
      case atStart => exact ⟨0, [], by omega, rfl, World.ownsRow_nil _ _ _ _, ⟨rfl, fun k u x hu => by simp at hu⟩, Below.refl _ _⟩
      case round =>
        obtain ⟨j, us, hj, rfl, HJ⟩ := hrel
        have own := HJ.out.1
        obtain ⟨q, hq⟩ : ∃ q, us.length = q := ⟨_, rfl⟩
        have HQ : Hid (us.length = q) := hq
        have hqb : q ≤ 1000 := by rw [← hq, HJ.out.2.1.1]; exact Nat.le_trans (leftTo_len _ _ _) (by omega)
        rw [hq] at own
        have hsz := HJ.out.2.2.size
        clear hq
        by_cases hjn : j < n
        · obtain ⟨g, rfl, hgb⟩ := HAL.out.1 (by omega)
          have lj := (HK2.out.1 g rfl).at j hjn
          have lj2 := (HJ.out.2.2.cell (p := ⟨g, j, none⟩) (cell_lt lj)).trans lj
          obtain ⟨bL, oL, rfl, -, hbl, hrw⟩ := HRO.out (by rw [HNN.out]; omega)
          obtain ⟨a1, q1, g1, i1⟩ := hrw j (by rw [HNN.out]; exact hjn)
          obtain ⟨x, hxe⟩ : ∃ x, L[j]?.getD [] = x := ⟨_, rfl⟩
          have HXE : Hid (faceAt L j = x) := hxe
          rw [hxe] at g1 i1
          have hszw := HK2.out.2.size
          have g2 := (HJ.out.2.2.cell (p := ⟨bL, oL + j, none⟩) (by simp only; omega)).trans ((HK2.out.2.cell (p := ⟨bL, oL + j, none⟩) hbl).trans g1)
          have HI1 := Hid.mk' i1
          obtain ⟨lb, hlb⟩ : ∃ lb, left j = lb := ⟨_, rfl⟩
          have HLB : Hid (left j = lb) := hlb
          rw [hlb] at lj2
          have z0 : (j : Int) < (n : Int) := by omega
          obtain ⟨xl, hxl⟩ : ∃ xl, x.length = xl := ⟨_, rfl⟩
          rw [hxl] at g2 HI1
          clear hxe hrw i1 g1 hlb lj hxl
          cases lb
          · go_wp2_with fail
            go_roundw
            case rel => exact ⟨j + 1, us, by omega, by go_num, by rw [HQ.out]; exact own, by rw [leftTo_no HLB.out]; exact HJ.out.2.1, HJ.out.2.2⟩
            case measure => simp [intOf]; omega
          · go_wp2_with (first
              | (at_builtin; refine wpList_append_slice rfl (.tmp 78) (.tmp 83) 22 rfl _ 51 i0 (.slice none 0 0) 24 Tryz.underlying22 hi0 hz0 hz1 hz2 rfl _ _ _ rfl (own.alloc _) _ [.slice a1 xl q1] rfl (slice_one _ _ _) (by simp [Value.oneCell']) (by simp; omega) (by unfold maxLen; simp; omega) (by simp; omega) ?_; intro v3 w4 hown3 hg3 hl3)
              | fail)
            go_roundw
            case rel =>
              refine ⟨j + 1, us ++ [.slice a1 xl q1], by omega, by go_num, ?_, ?_, ?_⟩
              · rw [List.length_append, HQ.out]; exact hown3
              · rw [leftTo_yes HLB.out, HXE.out]; exact HJ.out.2.1.snoc HI1.out
              · exact (HJ.out.2.2.alloc hsz _).grown hg3 (by simp; omega) (fun b hb => (own.lt b hb).1)
            case measure => simp [intOf]; omega
        · obtain rfl : j = n := by omega
          go_wp2_with fail
          go_ret2
          have hB := HK2.out.2.trans (HJ.out.2.2.mono HK2.out.2.size)
          refine ⟨hB, .inl ⟨HG.out, _, rfl, ?_⟩⟩
          rw [HLE.out, HNN.out]
          rw [← HQ.out] at own
          exact (HJ.out.2.1.below hB).rows own

end Go.Proofs.YthdmfeidcldafaaGreatDoor
