/- Opposite labels of a square, by the program. -/
import Derived.Test.YtbohobelbgbibaaDoorTkFits
import Derived.Test.YtbohobelbgbibaaDoorTkCut
import Derived.Test.YtbohobelbgbibaaDoorTkSort
import Derived.Test.YtbohobelbgbibaaDoorLpCheck2
namespace Go.Proofs.YtbohobelbgbibaaDoor
open Go.RowKit Go.Sort
attribute [local go_sem] side_at0 side_at1 side_at2

set_option maxRecDepth 100000 in
theorem opp_bound {a : Nat → Addr} {sx : Nat → ByteArray} {ls : List Int} (n : Int) (vl : Value) (w : World) (hE : Errs a sx w) (hl : Ints w vl ls) (hb : n < 1 ∨ 6 < n) :
    Calls Tryd.prog 22 #[.int .i64 n, vl] w fun e w' => e = .returned (.tuple #[.slice none 0 0, erV (a 1)]) ∧ Below w.heap.size w w' := by
  have g1 := hE.glob 1 (by simp)
  rw [show gl 1 = 2 from rfl] at g1
  unfold erV
  obtain ⟨al, cl, rfl, -, -⟩ := hl.open_
  obtain ⟨m, hm⟩ : ∃ m, ls.length = m := ⟨_, rfl⟩
  rw [hm]
  clear hE hl hm
  by_cases h1 : n < 1
  · go_enter Tryd.func22, Tryd.ntmps22
    go_wp2_with fail
    go_region
    all_goals go_wp2_with fail
    all_goals go_ret2
    all_goals exact ⟨rfl, (Below.refl _ _).drew⟩
  · have h2 : 6 < n := by omega
    go_enter Tryd.func22, Tryd.ntmps22
    go_wp2_with fail
    go_region
    all_goals go_wp2_with fail
    all_goals go_ret2
    all_goals exact ⟨rfl, (Below.refl _ _).drew⟩

set_option maxRecDepth 100000 in
theorem opp_shape {a : Nat → Addr} {sx : Nat → ByteArray} {ls : List Int} (n : Nat) (h1 : 1 ≤ n) (h2 : n ≤ 6) (vl : Value) (w : World) (hE : Errs a sx w) (hl : Ints w vl ls) (hb : ls.length ≠ sdN n * sdN n) (_h9 : ls.length ≤ 1000) :
    Calls Tryd.prog 22 #[.int .i64 (n : Int), vl] w fun e w' => e = .returned (.tuple #[.slice none 0 0, erV (a 2)]) ∧ Below w.heap.size w w' := by
  have g1 := hE.glob 2 (by simp)
  rw [show gl 2 = 0 from rfl] at g1
  have hwi := fun V => width_ n h2 V
  have hs13 := sdN_le h2
  have hss : sdN n * sdN n ≤ 13 * 13 := Nat.mul_le_mul hs13 hs13
  have ess : (sdN n : Int) * (sdN n : Int) = ((sdN n * sdN n : Nat) : Int) := by rw [Int.natCast_mul]
  unfold erV
  obtain ⟨al, cl, rfl, -, -⟩ := hl.open_
  obtain ⟨m, hm⟩ : ∃ m, ls.length = m := ⟨_, rfl⟩
  obtain ⟨s, hs⟩ : ∃ s, sdN n = s := ⟨_, rfl⟩
  rw [hm] at hb _h9 ⊢
  rw [hs] at hwi hs13 hss ess hb
  obtain ⟨N, hN⟩ : ∃ N, s * s = N := ⟨_, rfl⟩
  rw [hN] at hss ess hb
  have hb1 : ((m : Int) == (N : Int)) = false := beq_false_of_ne (by omega)
  clear hE hl hm hs hN
  go_enter Tryd.func22, Tryd.ntmps22
  go_wp2_with (first
    | (go_at_call 37; refine (hwi _).mono ?_; rintro e V ⟨rfl, rfl⟩)
    | fail)
  go_region
  all_goals go_wp2_with fail
  all_goals go_ret2
  all_goals exact ⟨rfl, (Below.refl _ _).drew⟩

theorem Tryd.infoT2 : (Tryd.prog.info? 55).map (fun i => (i.zero, i.size, i.bytes)) = some (some (.agg #[.int .i64 0, .int .i64 0]), 2, 16) := by kernel_rfl
theorem DuoRow.form {base : Nat} {W : World} {v : Value} {l : List T2} (h : DuoRow base W v l) : ∃ a c, v = .slice a l.length c := by
  rcases h.2 with ⟨rfl, hn⟩ | ⟨g, cap, cur, rfl, _⟩
  · exact ⟨none, 0, by rw [hn]⟩
  · exact ⟨_, _, rfl⟩
theorem DuoRow.below {base : Nat} {W W' : World} {v : Value} {l : List T2} (h : DuoRow base W v l) (hB : Below W.heap.size W W') : DuoRow base W' v l := World.ownsRow.kept h (Below.grownBy hB) (by cases v.ownBlock <;> simp)
def sidesOf (t : T3) : List T2 := [(t.1, t.2.1), (t.1, t.2.2), (t.2.1, t.2.2)]
def oppB (ls : List Int) (s : T2) : Bool := labA ls s.1.toNat == -labA ls s.2.toNat
/-- The sides of triangles whose ends have opposite labels. -/
def oppL (ls : List Int) (T : List T3) : List T2 := (T.flatMap sidesOf).filter (oppB ls)
theorem oppL_len (ls : List Int) : ∀ T, (oppL ls T).length ≤ 3 * T.length
  | [] => by simp [oppL]
  | t :: T => by
    have h1 := oppL_len ls T
    have h2 : ((sidesOf t).filter (oppB ls)).length ≤ 3 := List.length_filter_le _ _
    unfold oppL at h1 ⊢
    rw [List.flatMap_cons, List.filter_append, List.length_append, List.length_cons]
    omega
theorem oppL_more (ls : List Int) {T : List T3} {k : Nat} {t : T3} (h : T[k]? = some t) : oppL ls (T.take (k + 1)) = oppL ls (T.take k) ++ (sidesOf t).filter (oppB ls) := by
  rw [List.take_add_one, h]
  unfold oppL
  simp
/-- The sides of one triangle, the first few, whose ends have opposite labels. -/
def oppT (ls : List Int) (t : T3) (k : Nat) : List T2 := ((sidesOf t).take k).filter (oppB ls)
theorem oppT_len (ls : List Int) (t : T3) (k : Nat) : (oppT ls t k).length ≤ 3 := by
  refine Nat.le_trans (List.length_filter_le _ _) ?_
  rw [List.length_take]
  show min k 3 ≤ 3
  omega
theorem oppT_more {ls : List Int} {t : T3} {k : Nat} {s : T2} (h : (sidesOf t)[k]? = some s) : oppT ls t (k + 1) = oppT ls t k ++ (if oppB ls s then [s] else []) := by
  unfold oppT
  rw [List.take_add_one, h, List.filter_append]
  congr 1
  cases hb : oppB ls s <;> simp [hb]
theorem cutL_in : ∀ n, 1 ≤ n → n ≤ 6 → ∀ t, t ∈ cutL n → (0 ≤ t.1 ∧ t.1 < t.2.1 ∧ t.2.1 < t.2.2 ∧ t.2.2 < ((sdN n * sdN n : Nat) : Int)) := fun n h1 h2 => by
  obtain rfl | rfl | rfl | rfl | rfl | rfl : n = 1 ∨ n = 2 ∨ n = 3 ∨ n = 4 ∨ n = 5 ∨ n = 6 := by omega
  all_goals decide +kernel

set_option maxRecDepth 100000 in
set_option maxHeartbeats 4000000 in
theorem opp_rest {a : Nat → Addr} {ls : List Int} (n : Nat) (h1 : 1 ≤ n) (h2 : n ≤ 6) (vl : Value) (w : World) (hE : KindAt (a 7) w) (hl : Ints w vl ls) (hlen : ls.length = sdN n * sdN n) (hne : (∀ p, p < ls.length → fitsP n ls p) → 0 < (oppL ls (cutL n)).length) :
    Calls Tryd.prog 22 #[.int .i64 (n : Int), vl] w fun e w' => Below w.heap.size w w' ∧ ((∃ ve i, e = .returned (.tuple #[.slice none 0 0, ve]) ∧ i < ls.length ∧ (∀ j, j < i → fitsP n ls j) ∧ ¬ fitsP n ls i ∧ FaultAt a w' ve 7 (i : Int)) ∨ ((∀ j, j < ls.length → fitsP n ls j) ∧ ∃ g cap l', e = .returned (.tuple #[.slice (some ⟨g, 0, none⟩) (dedTo (fun j => l'[j]?.getD default) l'.length).length cap, .nilIface]) ∧ List.Perm l' (oppL ls (cutL n)) ∧ l'.Pairwise (fun x y => ¬ lt2 y x) ∧ ∀ j x, (dedTo (fun j => l'[j]?.getD default) l'.length)[j]? = some x → w'.cell? ⟨g, j * 2, none⟩ = some (.int .i64 x.1) ∧ w'.cell? ⟨g, j * 2 + 1, none⟩ = some (.int .i64 x.2))) := by
  have g1 : w.cell? ⟨1, 0, none⟩ = some (.iface 158 (.pointer (some (a 7)))) := hE
  have hwi := fun V => width_ n h2 V
  have hs13 := sdN_le h2
  have hss : sdN n * sdN n ≤ 13 * 13 := Nat.mul_le_mul hs13 hs13
  have ess : (sdN n : Int) * (sdN n : Int) = ((sdN n * sdN n : Nat) : Int) := by rw [Int.natCast_mul]
  have h0 : 0 < ls.length := by rw [hlen]; unfold sdN; exact Nat.mul_pos (by omega) (by omega)
  have hfit := fun p hp V hV => fits_ (ls := ls) n p h1 h2 vl V hV hp (by omega)
  have hcut := fun V => cut_ n h1 h2 V
  have HCI := Hid.mk' (cutL_in n h1 h2)
  have hct := cutTo_len n (sdN n * sdN n)
  have HLS := Hid.mk' hl
  have HNE := Hid.mk' hne
  have HG : Hid (∀ V, Below w.heap.size w V → V.cell? ⟨1, 0, none⟩ = some (.iface 158 (.pointer (some (a 7))))) := fun V hV => (hV.cell (p := ⟨1, 0, none⟩) (cell_lt g1)).trans g1
  obtain ⟨al, cl, rfl, -, hx⟩ := hl.open_
  obtain ⟨bl, ol, rfl, -, -, hcl⟩ := hx h0
  have HCL : Hid (∀ V k, Below w.heap.size w V → k < ls.length → V.cell? ⟨bl, ol + k, none⟩ = some (.int .i64 (labA ls k))) := fun V k hV hk => by
    have c := hcl k hk
    exact (hV.cell (p := ⟨bl, ol + k, none⟩) (cell_lt c)).trans c
  obtain ⟨s, hs⟩ : ∃ s, sdN n = s := ⟨_, rfl⟩
  rw [hs] at hwi hs13 hss ess hlen HCI hct
  obtain ⟨N, hN⟩ : ∃ N, s * s = N := ⟨_, rfl⟩
  rw [hN] at hss ess hlen HCI hct
  have HCT : Hid ((cutL n).length ≤ 2 * N) := by show (cutTo n (sdN n * sdN n)).length ≤ _; rw [hs, hN]; exact hct
  rw [hlen] at h0 hfit HLS HCL HNE ⊢
  have HLN := Hid.mk' hlen
  clear hE hl hlen hs hN hct hx hcl hne g1
  go_enter Tryd.func22, Tryd.ntmps22
  go_wp2_with (first
    | (go_at_call 37; refine (hwi _).mono ?_; rintro e w ⟨rfl, rfl⟩)
    | fail)
  go_loopw [30] (fun p W => ∃ k : Nat, k ≤ N ∧ p = .int .i64 (k : Int) ∧ Hid ((∀ j, j < k → fitsP n ls j) ∧ Below w.heap.size w W)) (fun p _ => N - (intOf p).toNat)
  case atStart => exact ⟨0, by omega, rfl, fun j hj => by omega, Below.refl _ _⟩
  case round =>
    obtain ⟨k, hk, rfl, HK⟩ := hrel
    by_cases hkN : k < N
    · have hft := hfit k hkN wr (HLS.out.below HK.out.2)
      have y0 : (0 : Int) ≤ (k : Int) := by omega
      have y1 : (k : Int) < (N : Int) := by omega
      go_upto_region 9 with (go_at_call 38; refine hft.mono ?_; rintro e V ⟨b, rfl, hb, hV⟩; have H3 : Hid ((b = true ↔ fitsP n ls k) ∧ Below w.heap.size w V) := ⟨hb, by obtain ⟨q, rfl⟩ := hV; exact HK.out.2.trans ((drewN_below wr q).mono HK.out.2.size)⟩; clear hb hV hft)
      · have g1 := HG.out V H3.out.2
        have HNO : Hid (¬ fitsP n ls k) := fun h => by
          have := H3.out.1.2 h
          subst this
          simp at *
        go_region
        all_goals go_wp2_with fail
        all_goals go_ret2
        all_goals refine ⟨(H3.out.2.drew).alloc H3.out.2.size _, .inl ⟨_, k, rfl, hkN, HK.out.1, HNO.out, _, rfl, ?_⟩⟩
        all_goals exact fault_cells _ (.int .i64 (k : Int)) _ _
      · refine ⟨⟨k + 1, by omega, by go_num, fun j hj => ?_, H3.out.2⟩, by simp [intOf]; omega⟩
        rcases Nat.lt_or_ge j k with g | g
        · exact HK.out.1 j g
        · obtain rfl : j = k := by omega
          refine H3.out.1.1 ?_
          cases b
          · simp at *
          · rfl
    · obtain rfl : k = N := by omega
      have hcu := hcut wr
      have HFIT : Hid (∀ q, q < k → (-2 ≤ labA ls q ∧ labA ls q ≤ 2)) := fun q hq => by
        have := (HK.out.1 q hq).1
        unfold lab4 at this
        omega
      obtain ⟨i0, hi0, hz0, hz1, hz2⟩ := info_parts Tryd.infoT2
      obtain ⟨L, hL⟩ : ∃ L, (cutL n).length = L := ⟨_, rfl⟩
      have HL : Hid ((cutL n).length = L) := hL
      have hL9 := HCT.out
      rw [hL] at hL9
      clear hL
      have HKB := Hid.mk' HK.out.2
      have HKF := Hid.mk' HK.out.1
      clear HK
      go_wp2_with (first
        | (go_at_call 39; refine hcu.mono ?_; rintro e W1 ⟨vc, rfl, hr, hb⟩; obtain ⟨sa, cs, hv⟩ := hr.form; rw [HL.out] at hv; subst hv; have H1 : Hid (TriRd W1 (.slice sa L cs) (cutL n) ∧ Below w.heap.size w W1) := ⟨hr.reads, HKB.out.trans (hb.mono HKB.out.size)⟩; clear hr hb hcu)
        | fail)
      have HBW : Hid (∀ V, Below W1.heap.size W1 V → Below w.heap.size w V) := fun V hV => H1.out.2.trans (hV.mono H1.out.2.size)
      clear hcut hfit
      obtain ⟨N, hN⟩ : ∃ N, N = k := ⟨_, rfl⟩
      subst hN
      go_loopw [7, 47] (fun po p W => ∃ (vo : Value) (k : Nat), k ≤ L ∧ po = vo ∧ p = .int .i64 (k : Int) ∧ Hid (DuoRow W1.heap.size W vo (oppL ls ((cutL n).take k)) ∧ Below W1.heap.size W1 W)) (fun _ p _ => L - (intOf p).toNat)
      case atStart => exact ⟨_, 0, by omega, rfl, rfl, by rw [List.take_zero]; exact World.ownsRow_nil _ _ _ _, Below.refl _ _⟩
      case round =>
        obtain ⟨vo, k, hk, hvo, rfl, HK⟩ := hrel
        obtain ⟨ao, co, hv2⟩ := HK.out.1.form
        have hlen := oppL_len ls ((cutL n).take k)
        rw [List.length_take, HL.out] at hlen
        obtain ⟨M, hM⟩ : ∃ M, (oppL ls ((cutL n).take k)).length = M := ⟨_, rfl⟩
        have HM : Hid ((oppL ls ((cutL n).take k)).length = M) := hM
        rw [hM] at hv2 hlen
        subst hv2
        subst hvo
        clear hM
        by_cases hkL : k < L
        · obtain ⟨t, ht⟩ : ∃ t, (cutL n)[k]? = some t := ⟨_, List.getElem?_eq_getElem (by rw [HL.out]; exact hkL)⟩
          have hin := HCI.out t (List.mem_of_getElem? ht)
          obtain ⟨t1, t2, t3⟩ := t
          dsimp only at hin
          obtain ⟨p, rfl⟩ : ∃ p : Nat, t1 = (p : Int) := ⟨t1.toNat, by omega⟩
          obtain ⟨q, rfl⟩ : ∃ p : Nat, t2 = (p : Int) := ⟨t2.toNat, by omega⟩
          obtain ⟨r, rfl⟩ : ∃ p : Nat, t3 = (p : Int) := ⟨t3.toNat, by omega⟩
          obtain ⟨-, hpq, hqr, hrN⟩ := hin
          have HMO := Hid.mk' (oppL_more ls ht)
          obtain ⟨a1, c1, ea, hx⟩ := H1.out.1.below HK.out.2
          rw [HL.out] at ea hx
          cases ea
          obtain ⟨g, rfl, hcell⟩ := hx (by omega)
          obtain ⟨d0, d1, d2⟩ := hcell k _ ht
          dsimp only at d0 d1 d2
          have hsd := fun V => sides_ ((p : Int), (q : Int), (r : Int)) V
          unfold aggT sidesV at hsd
          dsimp only at hsd
          have y0 : (0 : Int) ≤ (k : Int) := by omega
          have y1 : (k : Int) < (L : Int) := by omega
          clear hx hcell
          go_upto_region 15 with fail
          obtain ⟨e0, e1, e2, hB2, -⟩ := box3 wr (.int .i64 (p : Int)) (.int .i64 (q : Int)) (.int .i64 (r : Int)) 36
          obtain ⟨W2, hW2⟩ : ∃ W2, wr.alloc (.cells #[.int .i64 (p : Int), .int .i64 (q : Int), .int .i64 (r : Int)] 36) = W2 := ⟨_, rfl⟩
          rw [hW2] at e0 e1 e2 hB2 ⊢
          have H2 : Hid (DuoRow W1.heap.size W2 (.slice ao M co) (oppL ls ((cutL n).take k)) ∧ Below W1.heap.size W1 W2) := ⟨HK.out.1.below hB2, HK.out.2.trans (hB2.mono HK.out.2.size)⟩
          have hsd2 := hsd W2
          obtain ⟨rs, hrs⟩ : ∃ rs, wr.heap.size = rs := ⟨_, rfl⟩
          rw [hrs] at e0 e1 e2 ⊢
          clear hW2 hB2 d0 d1 d2 hrs hsd HK
          go_wp2_with (first
            | (go_at_call 40; refine hsd2.mono ?_; rintro e W3 ⟨rfl, hb⟩; have H3 : Hid (DuoRow W1.heap.size W3 (.slice ao M co) (oppL ls ((cutL n).take k)) ∧ Below W1.heap.size W1 W3) := ⟨H2.out.1.below hb, H2.out.2.trans (hb.mono H2.out.2.size)⟩; clear hb hsd2)
            | fail)
          clear e0 e1 e2
          go_loopw [7, 53] (fun po p' W => ∃ (vo : Value) (k3 : Nat), k3 ≤ 3 ∧ po = vo ∧ p' = .int .i64 (k3 : Int) ∧ Hid (DuoRow W1.heap.size W vo (oppL ls ((cutL n).take k) ++ oppT ls ((p : Int), (q : Int), (r : Int)) k3) ∧ Below W1.heap.size W1 W)) (fun _ p _ => 3 - (intOf p).toNat)
          case atStart => exact ⟨_, 0, by omega, rfl, rfl, by rw [show oppT ls ((p : Int), (q : Int), (r : Int)) 0 = [] from rfl, List.append_nil]; exact H3.out.1, H3.out.2⟩
          case round =>
            obtain ⟨vo, k3, hk3, hvo, rfl, HI⟩ := hrel
            obtain ⟨ao2, co2, hv2⟩ := HI.out.1.form
            obtain ⟨M2, hM2⟩ : ∃ M2, (oppL ls ((cutL n).take k) ++ oppT ls ((p : Int), (q : Int), (r : Int)) k3).length = M2 := ⟨_, rfl⟩
            have HM2 : Hid ((oppL ls ((cutL n).take k) ++ oppT ls ((p : Int), (q : Int), (r : Int)) k3).length = M2) := hM2
            have hM9 : M2 ≤ M + 3 := by
              have := oppT_len ls ((p : Int), (q : Int), (r : Int)) k3
              have h8 := HM.out
              rw [← hM2, List.length_append]
              omega
            rw [hM2] at hv2
            subst hv2
            subst hvo
            clear hM2
            obtain rfl | rfl | rfl | rfl : k3 = 0 ∨ k3 = 1 ∨ k3 = 2 ∨ k3 = 3 := by omega
            · have hsd : (sidesOf ((p : Int), (q : Int), (r : Int)))[0]? = some ((p : Int), (q : Int)) := rfl
              have HOT := Hid.mk' (oppT_more (ls := ls) hsd)
              go_upto_region 18 with fail
              obtain ⟨c0, c1, hB4⟩ := box2 wr (.int .i64 (p : Int)) (.int .i64 (q : Int)) 55
              obtain ⟨W4, hW4⟩ : ∃ W4, wr.alloc (.cells #[.int .i64 (p : Int), .int .i64 (q : Int)] 55) = W4 := ⟨_, rfl⟩
              rw [hW4] at c0 c1 hB4 ⊢
              obtain ⟨r4, hr4⟩ : ∃ r, wr.heap.size = r := ⟨_, rfl⟩
              rw [hr4] at c0 c1 ⊢
              have H4 : Hid (Below W1.heap.size W1 W4) := HI.out.2.trans (hB4.mono HI.out.2.size)
              have HBW4 := HBW.out W4 H4.out
              have l0 := HCL.out W4 p HBW4 (by omega)
              have l1 := HCL.out W4 q HBW4 (by omega)
              have f1 := HFIT.out q (by omega)
              have HOP : Hid (oppB ls ((p : Int), (q : Int)) = (labA ls p == -labA ls q)) := rfl
              obtain ⟨u, hu⟩ : ∃ u, labA ls p = u := ⟨_, rfl⟩
              obtain ⟨v, hv⟩ : ∃ v, labA ls q = v := ⟨_, rfl⟩
              rw [hu] at l0 HOP
              rw [hv] at l1 f1 HOP
              have HR4 : Hid (DuoRow W1.heap.size W4 (.slice ao2 M2 co2) (oppL ls ((cutL n).take k) ++ oppT ls ((p : Int), (q : Int), (r : Int)) 0)) := HI.out.1.below hB4
              have a0 : (0 : Int) ≤ (p : Int) := by omega
              have a1 : (p : Int) < (N : Int) := by omega
              have a2 : (0 : Int) ≤ (q : Int) := by omega
              have a3 : (q : Int) < (N : Int) := by omega
              clear hW4 hB4 hr4 hu hv hsd HBW4
              go_quiet (fail)
              obtain ⟨W5, hW5⟩ : ∃ W5, W4.drewN nq = W5 := ⟨_, rfl⟩
              have H5 : Hid (Below W1.heap.size W1 W5 ∧ DuoRow W1.heap.size W5 (.slice ao2 M2 co2) (oppL ls ((cutL n).take k) ++ oppT ls ((p : Int), (q : Int), (r : Int)) 0)) := by
                rw [← hW5]
                exact ⟨H4.out.trans ((drewN_below W4 nq).mono H4.out.size), HR4.out.below (drewN_below W4 nq)⟩
              have d0 : W5.cell? ⟨r4, 0, none⟩ = some (.int .i64 (p : Int)) := by rw [← hW5]; exact c0
              have d1 : W5.cell? ⟨r4, 1, none⟩ = some (.int .i64 (q : Int)) := by rw [← hW5]; exact c1
              rw [hW5]
              have hws : W1.heap.size ≤ W5.heap.size := H5.out.1.size
              have HOW : Hid (W5.ownsRow W1.heap.size 55 2 (.slice ao2 M2 co2) M2 ((oppL ls ((cutL n).take k) ++ oppT ls ((p : Int), (q : Int), (r : Int)) 0).flatMap enc2)) := by
                have := H5.out.2
                unfold DuoRow at this
                rw [HM2.out] at this
                exact this
              clear hW5 c0 c1 l0 l1 HR4 H4
              by_cases hop : u = -v
              · have hb : (u == -v) = true := by rw [beq_iff_eq]; exact hop
                have HO2 : Hid (oppT ls ((p : Int), (q : Int), (r : Int)) (0 + 1) = oppT ls ((p : Int), (q : Int), (r : Int)) 0 ++ [((p : Int), (q : Int))]) := by
                  show _ = _
                  rw [HOT.out, HOP.out, hb]; rfl
                rw [hb]
                clear hop
                go_wp2_with (first
                  | (at_builtin; refine wpList_append_own_at _ rfl (.tmp 68) (.tmp 70) 51 rfl W1.heap.size 55 i0 (.agg #[.int .i64 0, .int .i64 0]) 2 16 Tryd.underlying51 hi0 hz0 hz1 hz2 rfl (by decide) _ M2 _ rfl (HOW.out.alloc _) ⟨_, 0, none⟩ 1 1 [.int .i64 (p : Int), .int .i64 (q : Int)] rfl rfl (cells_new _ _ _) (by simp [Value.oneCell']) (by unfold maxLen; omega) (by omega) (by simp; omega) ?_; intro v5 w5 hown5 hg5 hn5 hl5; have H6 := Hid.mk' (And.intro hown5 (And.intro hg5 hl5)); clear hown5 hg5 hn5 hl5)
                  | fail)
                go_roundw
                case rel =>
                  refine ⟨_, 0 + 1, by omega, rfl, by go_num, ?_, (H5.out.1.alloc hws _).grown H6.out.2.1 (by simp; omega) (fun b e => (HOW.out.lt b e).1)⟩
                  unfold DuoRow
                  rw [HO2.out, ← List.append_assoc, List.length_append, HM2.out, List.flatMap_append]
                  exact H6.out.1
                case measure => simp [intOf]
              · have hb : (u == -v) = false := beq_false_of_ne hop
                have HO2 : Hid (oppT ls ((p : Int), (q : Int), (r : Int)) (0 + 1) = oppT ls ((p : Int), (q : Int), (r : Int)) 0) := by
                  show _ = _
                  rw [HOT.out, HOP.out, hb]; simp
                rw [hb]
                clear hop
                go_wp2_with fail
                go_roundw
                case rel => exact ⟨_, 0 + 1, by omega, rfl, by go_num, by rw [HO2.out]; exact H5.out.2, H5.out.1⟩
                case measure => simp [intOf]
            · have hsd : (sidesOf ((p : Int), (q : Int), (r : Int)))[1]? = some ((p : Int), (r : Int)) := rfl
              have HOT := Hid.mk' (oppT_more (ls := ls) hsd)
              go_upto_region 18 with fail
              obtain ⟨c0, c1, hB4⟩ := box2 wr (.int .i64 (p : Int)) (.int .i64 (r : Int)) 55
              obtain ⟨W4, hW4⟩ : ∃ W4, wr.alloc (.cells #[.int .i64 (p : Int), .int .i64 (r : Int)] 55) = W4 := ⟨_, rfl⟩
              rw [hW4] at c0 c1 hB4 ⊢
              obtain ⟨r4, hr4⟩ : ∃ r, wr.heap.size = r := ⟨_, rfl⟩
              rw [hr4] at c0 c1 ⊢
              have H4 : Hid (Below W1.heap.size W1 W4) := HI.out.2.trans (hB4.mono HI.out.2.size)
              have HBW4 := HBW.out W4 H4.out
              have l0 := HCL.out W4 p HBW4 (by omega)
              have l1 := HCL.out W4 r HBW4 (by omega)
              have f1 := HFIT.out r (by omega)
              have HOP : Hid (oppB ls ((p : Int), (r : Int)) = (labA ls p == -labA ls r)) := rfl
              obtain ⟨u, hu⟩ : ∃ u, labA ls p = u := ⟨_, rfl⟩
              obtain ⟨v, hv⟩ : ∃ v, labA ls r = v := ⟨_, rfl⟩
              rw [hu] at l0 HOP
              rw [hv] at l1 f1 HOP
              have HR4 : Hid (DuoRow W1.heap.size W4 (.slice ao2 M2 co2) (oppL ls ((cutL n).take k) ++ oppT ls ((p : Int), (q : Int), (r : Int)) 1)) := HI.out.1.below hB4
              have a0 : (0 : Int) ≤ (p : Int) := by omega
              have a1 : (p : Int) < (N : Int) := by omega
              have a2 : (0 : Int) ≤ (r : Int) := by omega
              have a3 : (r : Int) < (N : Int) := by omega
              clear hW4 hB4 hr4 hu hv hsd HBW4
              go_quiet (fail)
              obtain ⟨W5, hW5⟩ : ∃ W5, W4.drewN nq = W5 := ⟨_, rfl⟩
              have H5 : Hid (Below W1.heap.size W1 W5 ∧ DuoRow W1.heap.size W5 (.slice ao2 M2 co2) (oppL ls ((cutL n).take k) ++ oppT ls ((p : Int), (q : Int), (r : Int)) 1)) := by
                rw [← hW5]
                exact ⟨H4.out.trans ((drewN_below W4 nq).mono H4.out.size), HR4.out.below (drewN_below W4 nq)⟩
              have d0 : W5.cell? ⟨r4, 0, none⟩ = some (.int .i64 (p : Int)) := by rw [← hW5]; exact c0
              have d1 : W5.cell? ⟨r4, 1, none⟩ = some (.int .i64 (r : Int)) := by rw [← hW5]; exact c1
              rw [hW5]
              have hws : W1.heap.size ≤ W5.heap.size := H5.out.1.size
              have HOW : Hid (W5.ownsRow W1.heap.size 55 2 (.slice ao2 M2 co2) M2 ((oppL ls ((cutL n).take k) ++ oppT ls ((p : Int), (q : Int), (r : Int)) 1).flatMap enc2)) := by
                have := H5.out.2
                unfold DuoRow at this
                rw [HM2.out] at this
                exact this
              clear hW5 c0 c1 l0 l1 HR4 H4
              by_cases hop : u = -v
              · have hb : (u == -v) = true := by rw [beq_iff_eq]; exact hop
                have HO2 : Hid (oppT ls ((p : Int), (q : Int), (r : Int)) (1 + 1) = oppT ls ((p : Int), (q : Int), (r : Int)) 1 ++ [((p : Int), (r : Int))]) := by
                  show _ = _
                  rw [HOT.out, HOP.out, hb]; rfl
                rw [hb]
                clear hop
                go_wp2_with (first
                  | (at_builtin; refine wpList_append_own_at _ rfl (.tmp 68) (.tmp 70) 51 rfl W1.heap.size 55 i0 (.agg #[.int .i64 0, .int .i64 0]) 2 16 Tryd.underlying51 hi0 hz0 hz1 hz2 rfl (by decide) _ M2 _ rfl (HOW.out.alloc _) ⟨_, 0, none⟩ 1 1 [.int .i64 (p : Int), .int .i64 (r : Int)] rfl rfl (cells_new _ _ _) (by simp [Value.oneCell']) (by unfold maxLen; omega) (by omega) (by simp; omega) ?_; intro v5 w5 hown5 hg5 hn5 hl5; have H6 := Hid.mk' (And.intro hown5 (And.intro hg5 hl5)); clear hown5 hg5 hn5 hl5)
                  | fail)
                go_roundw
                case rel =>
                  refine ⟨_, 1 + 1, by omega, rfl, by go_num, ?_, (H5.out.1.alloc hws _).grown H6.out.2.1 (by simp; omega) (fun b e => (HOW.out.lt b e).1)⟩
                  unfold DuoRow
                  rw [HO2.out, ← List.append_assoc, List.length_append, HM2.out, List.flatMap_append]
                  exact H6.out.1
                case measure => simp [intOf]
              · have hb : (u == -v) = false := beq_false_of_ne hop
                have HO2 : Hid (oppT ls ((p : Int), (q : Int), (r : Int)) (1 + 1) = oppT ls ((p : Int), (q : Int), (r : Int)) 1) := by
                  show _ = _
                  rw [HOT.out, HOP.out, hb]; simp
                rw [hb]
                clear hop
                go_wp2_with fail
                go_roundw
                case rel => exact ⟨_, 1 + 1, by omega, rfl, by go_num, by rw [HO2.out]; exact H5.out.2, H5.out.1⟩
                case measure => simp [intOf]
            · have hsd : (sidesOf ((p : Int), (q : Int), (r : Int)))[2]? = some ((q : Int), (r : Int)) := rfl
              have HOT := Hid.mk' (oppT_more (ls := ls) hsd)
              go_upto_region 18 with fail
              obtain ⟨c0, c1, hB4⟩ := box2 wr (.int .i64 (q : Int)) (.int .i64 (r : Int)) 55
              obtain ⟨W4, hW4⟩ : ∃ W4, wr.alloc (.cells #[.int .i64 (q : Int), .int .i64 (r : Int)] 55) = W4 := ⟨_, rfl⟩
              rw [hW4] at c0 c1 hB4 ⊢
              obtain ⟨r4, hr4⟩ : ∃ r, wr.heap.size = r := ⟨_, rfl⟩
              rw [hr4] at c0 c1 ⊢
              have H4 : Hid (Below W1.heap.size W1 W4) := HI.out.2.trans (hB4.mono HI.out.2.size)
              have HBW4 := HBW.out W4 H4.out
              have l0 := HCL.out W4 q HBW4 (by omega)
              have l1 := HCL.out W4 r HBW4 (by omega)
              have f1 := HFIT.out r (by omega)
              have HOP : Hid (oppB ls ((q : Int), (r : Int)) = (labA ls q == -labA ls r)) := rfl
              obtain ⟨u, hu⟩ : ∃ u, labA ls q = u := ⟨_, rfl⟩
              obtain ⟨v, hv⟩ : ∃ v, labA ls r = v := ⟨_, rfl⟩
              rw [hu] at l0 HOP
              rw [hv] at l1 f1 HOP
              have HR4 : Hid (DuoRow W1.heap.size W4 (.slice ao2 M2 co2) (oppL ls ((cutL n).take k) ++ oppT ls ((p : Int), (q : Int), (r : Int)) 2)) := HI.out.1.below hB4
              have a0 : (0 : Int) ≤ (q : Int) := by omega
              have a1 : (q : Int) < (N : Int) := by omega
              have a2 : (0 : Int) ≤ (r : Int) := by omega
              have a3 : (r : Int) < (N : Int) := by omega
              clear hW4 hB4 hr4 hu hv hsd HBW4
              go_quiet (fail)
              obtain ⟨W5, hW5⟩ : ∃ W5, W4.drewN nq = W5 := ⟨_, rfl⟩
              have H5 : Hid (Below W1.heap.size W1 W5 ∧ DuoRow W1.heap.size W5 (.slice ao2 M2 co2) (oppL ls ((cutL n).take k) ++ oppT ls ((p : Int), (q : Int), (r : Int)) 2)) := by
                rw [← hW5]
                exact ⟨H4.out.trans ((drewN_below W4 nq).mono H4.out.size), HR4.out.below (drewN_below W4 nq)⟩
              have d0 : W5.cell? ⟨r4, 0, none⟩ = some (.int .i64 (q : Int)) := by rw [← hW5]; exact c0
              have d1 : W5.cell? ⟨r4, 1, none⟩ = some (.int .i64 (r : Int)) := by rw [← hW5]; exact c1
              rw [hW5]
              have hws : W1.heap.size ≤ W5.heap.size := H5.out.1.size
              have HOW : Hid (W5.ownsRow W1.heap.size 55 2 (.slice ao2 M2 co2) M2 ((oppL ls ((cutL n).take k) ++ oppT ls ((p : Int), (q : Int), (r : Int)) 2).flatMap enc2)) := by
                have := H5.out.2
                unfold DuoRow at this
                rw [HM2.out] at this
                exact this
              clear hW5 c0 c1 l0 l1 HR4 H4
              by_cases hop : u = -v
              · have hb : (u == -v) = true := by rw [beq_iff_eq]; exact hop
                have HO2 : Hid (oppT ls ((p : Int), (q : Int), (r : Int)) (2 + 1) = oppT ls ((p : Int), (q : Int), (r : Int)) 2 ++ [((q : Int), (r : Int))]) := by
                  show _ = _
                  rw [HOT.out, HOP.out, hb]; rfl
                rw [hb]
                clear hop
                go_wp2_with (first
                  | (at_builtin; refine wpList_append_own_at _ rfl (.tmp 68) (.tmp 70) 51 rfl W1.heap.size 55 i0 (.agg #[.int .i64 0, .int .i64 0]) 2 16 Tryd.underlying51 hi0 hz0 hz1 hz2 rfl (by decide) _ M2 _ rfl (HOW.out.alloc _) ⟨_, 0, none⟩ 1 1 [.int .i64 (q : Int), .int .i64 (r : Int)] rfl rfl (cells_new _ _ _) (by simp [Value.oneCell']) (by unfold maxLen; omega) (by omega) (by simp; omega) ?_; intro v5 w5 hown5 hg5 hn5 hl5; have H6 := Hid.mk' (And.intro hown5 (And.intro hg5 hl5)); clear hown5 hg5 hn5 hl5)
                  | fail)
                go_roundw
                case rel =>
                  refine ⟨_, 2 + 1, by omega, rfl, by go_num, ?_, (H5.out.1.alloc hws _).grown H6.out.2.1 (by simp; omega) (fun b e => (HOW.out.lt b e).1)⟩
                  unfold DuoRow
                  rw [HO2.out, ← List.append_assoc, List.length_append, HM2.out, List.flatMap_append]
                  exact H6.out.1
                case measure => simp [intOf]
              · have hb : (u == -v) = false := beq_false_of_ne hop
                have HO2 : Hid (oppT ls ((p : Int), (q : Int), (r : Int)) (2 + 1) = oppT ls ((p : Int), (q : Int), (r : Int)) 2) := by
                  show _ = _
                  rw [HOT.out, HOP.out, hb]; simp
                rw [hb]
                clear hop
                go_wp2_with fail
                go_roundw
                case rel => exact ⟨_, 2 + 1, by omega, rfl, by go_num, by rw [HO2.out]; exact H5.out.2, H5.out.1⟩
                case measure => simp [intOf]
            · have HF : Hid (oppL ls ((cutL n).take (k + 1)) = oppL ls ((cutL n).take k) ++ oppT ls ((p : Int), (q : Int), (r : Int)) 3) := HMO.out
              go_wp2_with fail
              go_roundw
              case rel => exact ⟨_, k + 1, by omega, rfl, by go_num, by rw [HF.out]; exact HI.out.1, HI.out.2⟩
              case measure => simp [intOf]; omega
        · obtain rfl : k = L := by omega
          have HO : Hid ((cutL n).take k = cutL n) := by
            show _ = _
            rw [List.take_of_length_le (by rw [HL.out]; omega)]
          have HR : Hid (DuoRow W1.heap.size wr (.slice ao M co) (oppL ls (cutL n)) ∧ (oppL ls (cutL n)).length = M) := by
            have h7 := HK.out.1
            have h8 := HM.out
            rw [HO.out] at h7 h8
            exact ⟨h7, h8⟩
          have hM0 : 0 < M := by
            have := HNE.out HKF.out
            rw [HR.out.2] at this
            exact this
          obtain ⟨g, cap, ev, hgb, hgs, hcap, -⟩ := DuoRow.at HR.out.1 (by rw [HR.out.2]; exact hM0)
          rw [HR.out.2] at ev hcap
          cases ev
          have hst := sort2_ wr HR.out.1 (by rw [HR.out.2]; exact hM0) (by rw [HR.out.2]; omega)
          have HKB2 := Hid.mk' HK.out.2
          have HRL := Hid.mk' HR.out.2
          clear HK HM HO HR HNE
          go_upto_region 23 with (go_at_call 41; refine hst.mono ?_; rintro e W6 ⟨rfl, l', hp, hs, hr, hg⟩; have H6 : Hid (List.Perm l' (oppL ls (cutL n)) ∧ l'.Pairwise (fun a b => ¬ lt2 b a) ∧ DuoRow W1.heap.size W6 (.slice (some ⟨g, 0, none⟩) M co) l' ∧ wr.grownBy W6 (some g)) := ⟨hp, hs, hr, hg⟩; clear hp hs hr hg hst)
          have HLE : Hid (l'.length = M) := by
            have := H6.out.1.length_eq
            rw [HRL.out] at this
            exact this
          obtain ⟨g', cap', ev, -, -, -, hduo⟩ := DuoRow.at H6.out.2.2.1 (by rw [HLE.out]; exact hM0)
          cases ev
          rw [HLE.out] at hduo
          have hco := compact_ W6 hduo (by omega) (by omega) hcap
          have HB6 : Hid (Below W1.heap.size W1 W6) := HKB2.out.grown H6.out.2.2.2 HKB2.out.size (fun b e => by cases e; exact hgb)
          clear hduo
          go_wp2_with (first
            | (go_at_call 44; refine hco.mono ?_; rintro e W7 ⟨rfl, hcs, hgr⟩; have H7 := Hid.mk' (And.intro hcs hgr); clear hcs hgr hco)
            | fail)
          go_ret2
          refine ⟨HBW.out _ (HB6.out.grown H7.out.2 HB6.out.size (fun b e => by cases e; exact hgb)), .inr ⟨HKF.out, g, co, l', ?_, H6.out.1, H6.out.2.1, ?_⟩⟩
          · rfl
          · exact H7.out.1

end Go.Proofs.YtbohobelbgbibaaDoor
