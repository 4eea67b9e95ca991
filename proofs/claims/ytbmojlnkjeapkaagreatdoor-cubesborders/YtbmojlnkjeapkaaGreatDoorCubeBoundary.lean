/- What Boundary answers of an image and a dimension. -/
import Derived.Test.YtbmojlnkjeapkaaGreatDoorCubeSides2
import Derived.Test.YtbmojlnkjeapkaaGreatDoorCubeBound
import Derived.Test.YtbmojlnkjeapkaaGreatDoorMatAt
namespace Go.Proofs.YtbmojlnkjeapkaaGreatDoor
open Go.RowKit Go.Sort Go.Maps

def noMat (v : Value) : Value := .tuple #[.agg #[.int .i64 0, .int .i64 0, .slice none 0 0], v]

/-- What Boundary answers. -/
def BoundSays (a : Nat → Addr) (m : List (List UInt8)) (d : Int) (w : World) (e : Ending) (w' : World) : Prop :=
  Below w.heap.size w w' ∧ ((∃ i, BadImg m i ∧ e = .returned (noMat (errV (a i)))) ∨ (OkImg m ∧ ¬ (0 ≤ d ∧ d ≤ 3) ∧ e = .returned (noMat (errV (a 1)))) ∨
    (OkImg m ∧ (0 ≤ d ∧ d ≤ 3) ∧ ∃ v, e = .returned (.tuple #[.agg #[.int .i64 (rowsC m d).length, .int .i64 (colsC m d).length, v], .nilIface]) ∧ Ints w' v (borderC m d)))

theorem MatBox.of_below {B n : Nat} {W W' : World} {r c : Int} {v : Value} (h : MatBox B W r c v) (hB : Below n W W') (hn : B < n) : MatBox B W' r c v :=
  ⟨⟨(hB.cell (p := ⟨B, 0, none⟩) hn).trans h.c0.1, (hB.frozen (p := ⟨B, 0, none⟩) hn).trans h.c0.2⟩, ⟨(hB.cell (p := ⟨B, 1, none⟩) hn).trans h.c1.1, (hB.frozen (p := ⟨B, 1, none⟩) hn).trans h.c1.2⟩, ⟨(hB.cell (p := ⟨B, 2, none⟩) hn).trans h.c2.1, (hB.frozen (p := ⟨B, 2, none⟩) hn).trans h.c2.2⟩⟩

/-- The answer, from a row of numbers in a block behind the result's variable. -/
theorem bound_put {m : List (List UInt8)} {d : Int} {W : World} {Z g n : Nat} {F : Nat → Int} {a b c : Value} (hr : W.rowIs g 3 n (fun j => .int .i64 (F j))) (hg : Z < g) (hl : (borderC m d).length = n) (hF : ∀ j, j < n → (borderC m d)[j]? = some (F j)) : Ints (((W.setCell ⟨Z, 0, none⟩ a).setCell ⟨Z, 1, none⟩ b).setCell ⟨Z, 2, none⟩ c) (.slice (some ⟨g, 0, none⟩) n n) (borderC m d) :=
  ints_of_rowIs (((hr.setOther (by simp only; omega) _).setOther (by simp only; omega) _).setOther (by simp only; omega) _) hl hF

theorem all_facts {m : List (List UInt8)} (hok : OkImg m) : ((cornersL (fullI m) (cornersI m)).Nodup ∧ ((edgesL (fullI m) (cornersI m)).map keyD).Nodup ∧ (edgesL (fullI m) (cornersI m)).Nodup) ∧ (∀ a ∈ cornersL (fullI m) (cornersI m), Small a) ∧ (∀ e ∈ edgesL (fullI m) (cornersI m), Small e.1 ∧ Small e.2) ∧ (∀ s ∈ squaresL (fullI m) (cornersI m), (-1000 ≤ s.1 ∧ s.1 ≤ 1000) ∧ (-1000 ≤ s.2 ∧ s.2 ≤ 1000)) ∧
    ((cornersL (fullI m) (cornersI m)).length ≤ 2000 ∧ (edgesL (fullI m) (cornersI m)).length ≤ 2000 ∧ (squaresL (fullI m) (cornersI m)).length ≤ 2000) := by
  have h1 := hok.img.2.1
  have h2 := hok.img.2.2.1
  have hn : (cornersI m).Nodup := sqTo_nodup _ _
  have hs : ∀ a ∈ cornersL (fullI m) (cornersI m), Small a := fun a ha => (near_sq (by omega) (by omega) (cornersL_mem ha)).small
  have he : ∀ e ∈ edgesL (fullI m) (cornersI m), Small e.1 ∧ Small e.2 := fun e h => ⟨hs _ (edge_ends h).1, hs _ (edge_ends h).2.1⟩
  have hc := counts_le m hok
  refine ⟨⟨hn.filter _, keys_nodup (edgesL_nodup hn) he, edgesL_nodup hn⟩, hs, he, fun s h => ?_, by rw [cornersL_len]; omega, by rw [edgesL_len]; omega, by rw [squaresL_len]; omega⟩
  have h3 := full_in (List.mem_filter.1 h).2
  omega

set_option maxRecDepth 100000 in
set_option maxHeartbeats 4000000 in
theorem boundary_i {a : Nat → Addr} {s : Nat → ByteArray} (vm : Value) (m : List (List UInt8)) (d : Int) (w : World) (hE : Errs a s w) (hm : Strs w vm m) (hl : m.length ≤ 1000) :
    Calls Tryz.prog 13 #[vm, .int .i64 d] w fun e w' => BoundSays a m d w e w' := by
  have hBa : Below w.heap.size w (w.alloc (.cells #[.int .i64 0, .int .i64 0, .slice none 0 0] 42)) := (Below.refl _ w).alloc (Nat.le_refl _) _
  have hval := valid_image vm m _ (hE.below hBa) (hm.below hBa) hl
  have hbox := matBox_new w 0 0 (.slice none 0 0) 42
  have HM : Hid (Strs w vm m ∧ Errs a s w) := ⟨hm, hE⟩
  obtain ⟨W1, hW1⟩ : ∃ W1, w.alloc (.cells #[.int .i64 0, .int .i64 0, .slice none 0 0] 42) = W1 := ⟨_, rfl⟩
  obtain ⟨Z, hZ⟩ : ∃ Z, w.heap.size = Z := ⟨_, rfl⟩
  have hl1 : Z < W1.heap.size := by rw [← hW1, ← hZ]; simp
  rw [hW1] at hval
  rw [hW1, hZ] at hbox hBa
  have HBX : Hid (MatBox Z W1 0 0 (.slice none 0 0)) := hbox
  obtain ⟨am, ca, rfl, -, -⟩ := hm.open_
  clear hm hE hbox
  go_enter Tryz.func13, Tryz.ntmps13
  go_upto_region 1 with fail
  try rw [hW1]
  try rw [hZ]
  have HZZ : Hid (w.heap.size = Z) := hZ
  clear hW1 hZ
  go_wp2_with fail
  refine hval.mono ?_
  rintro e w2 ⟨hd, ⟨i, hbad, rfl⟩ | ⟨hok, rfl⟩⟩
  · have hB := hd.below
    have zb := HBX.out.below hB
    have HI : Hid (BadImg m i) := hbad
    have HB : Hid (Below Z w w2) := hBa.trans (hB.mono (by omega))
    have hpt := zb.put 0 0 (.slice none 0 0)
    obtain ⟨⟨q00, q01⟩, ⟨q10, q11⟩, ⟨q20, q21⟩⟩ := zb
    have t0 := hpt.c0.1
    have t1 := hpt.c1.1
    have t2 := hpt.c2.1
    clear hval hd hbad hB hpt
    go_wp2_with fail
    refine bodyPost_ret (v := noMat (errV (a i))) ?_ rfl ?_
    · simp [results, Tryz.f13, go_sem, t0, t1, t2, noMat, errV]
    · unfold BoundSays; rw [HZZ.out]; exact ⟨mat_put_below HB.out _ _ _, .inl ⟨i, HI.out, rfl⟩⟩
  · have hB := hd.below
    have hBw2 : Below Z w w2 := hBa.trans (hB.mono (by omega))
    have hpa := parts_of (.slice am m.length ca) m w2 (HM.out.1.below (by rw [HZZ.out]; exact hBw2)) hok.img.1 hok.img.2.1 hok.img.2.2.1
    have HO : Hid (OkImg m) := hok
    have HFA := Hid.mk' (all_facts hok)
    have HZ2 : Hid (MatBox Z w2 0 0 (.slice none 0 0)) := HBX.out.below hB
    have hl2 : Z < w2.heap.size := Nat.lt_of_lt_of_le hl1 hB.size
    clear hval hd hok hB HBX
    go_upto_region 5 with (go_at_call 21; refine hpa.mono ?_; rintro e w3 ⟨b1, b2, av, cv, rfl, hM1, hM2, hQ, hb12, hB3⟩)
    obtain ⟨C, hC⟩ : ∃ C, cornersL (fullAt m (wide m) m.length) (sqTo (wide m + 1) (m.length + 1)) = C := ⟨_, rfl⟩
    obtain ⟨E, hEe⟩ : ∃ E, edgesL (fullAt m (wide m) m.length) (sqTo (wide m + 1) (m.length + 1)) = E := ⟨_, rfl⟩
    obtain ⟨S, hS⟩ : ∃ S, squaresL (fullAt m (wide m) m.length) (sqTo (wide m + 1) (m.length + 1)) = S := ⟨_, rfl⟩
    have HCC : Hid (cornersL (fullI m) (cornersI m) = C) := hC
    have HEE : Hid (edgesL (fullI m) (cornersI m) = E) := hEe
    have HSS : Hid (squaresL (fullI m) (cornersI m) = S) := hS
    rw [HCC.out, HEE.out, HSS.out] at HFA
    rw [hC] at hM1
    rw [hEe] at hM2
    rw [hS] at hQ ⊢
    have hEn : ∀ e ∈ E, e.1 ∈ C ∧ e.2 ∈ C ∧ e.1 ≠ e.2 := fun e he => by rw [← hC]; rw [← hEe] at he; exact edge_ends he
    have hSn : ∀ s ∈ S, (s, (s.1 + 1, s.2)) ∈ E ∧ ((s.1 + 1, s.2), (s.1 + 1, s.2 + 1)) ∈ E ∧ ((s.1, s.2 + 1), (s.1 + 1, s.2 + 1)) ∈ E ∧ (s, (s.1, s.2 + 1)) ∈ E := fun s hs => by rw [← hEe]; rw [← hS] at hs; exact square_sides hs
    clear hC hEe hS
    obtain ⟨n, hn⟩ : ∃ n, S.length = n := ⟨_, rfl⟩
    rw [hn]
    have q : ∀ j u, [Value.map (some b1), .map (some b2), .slice av n cv][j]? = some u → (w3.alloc (.cells #[.map (some b1), .map (some b2), .slice av n cv] 56)).cell? ⟨w3.heap.size, j, none⟩ = some u := fun j u hu => by
      have := cells_new w3 [.map (some b1), .map (some b2), .slice av n cv] 56 j u hu
      rw [Addr.add_lit, Nat.zero_add] at this
      exact this
    have q0 := q 0 _ rfl
    have q1 := q 1 _ rfl
    have q2 := q 2 _ rfl
    have hB34 : Below w3.heap.size w3 (w3.alloc (.cells #[.map (some b1), .map (some b2), .slice av n cv] 56)) := (Below.refl _ w3).alloc (Nat.le_refl _) _
    obtain ⟨W4, hW4⟩ : ∃ W4, w3.alloc (.cells #[.map (some b1), .map (some b2), .slice av n cv] 56) = W4 := ⟨_, rfl⟩
    obtain ⟨pb, hpb⟩ : ∃ pb, w3.heap.size = pb := ⟨_, rfl⟩
    rw [hW4, hpb] at q0 q1 q2
    rw [hW4] at hB34
    rw [hW4, hpb]
    have HM1 : Hid (MapIx W4 59 b1 (C.map keyC)) := hM1.below hB34
    have HM2 : Hid (MapIx W4 96 b2 (E.map keyD)) := hM2.below hB34
    have HQ : Hid (SqIn (fun _ => True) W4 (.slice av n cv) S) := by rw [← hn]; exact (hQ.below hB34).mono (fun _ _ _ => trivial)
    have hB4 : Below w2.heap.size w2 W4 := hB3.trans (hB34.mono hB3.size)
    have HB4 : Hid (Below Z w W4) := hBw2.trans (hB4.mono (by omega))
    have HZ4 : Hid (MatBox Z W4 0 0 (.slice none 0 0)) := HZ2.out.below hB4
    have hl4 : Z < W4.heap.size := Nat.lt_of_lt_of_le hl2 hB4.size
    have HNN : Hid (S.length = n) := hn
    have HEN : Hid ((∀ e ∈ E, e.1 ∈ C ∧ e.2 ∈ C ∧ e.1 ≠ e.2) ∧ ∀ s ∈ S, (s, (s.1 + 1, s.2)) ∈ E ∧ ((s.1 + 1, s.2), (s.1 + 1, s.2 + 1)) ∈ E ∧ ((s.1, s.2 + 1), (s.1 + 1, s.2 + 1)) ∈ E ∧ (s, (s.1, s.2 + 1)) ∈ E) := ⟨hEn, hSn⟩
    clear q hW4 hpb hpa hM1 hM2 hQ hB3 hB34 hB4 HZ2 hBw2 hn hEn hSn
    by_cases h0 : d = 0
    · subst h0
      obtain ⟨D1, hD1, -, hD1s, -⟩ := HM1.out
      rw [List.length_map] at hD1s
      have hz := zeros_ 0 C.length (by omega) HFA.out.2.2.2.2.1 W4
      go_wp2_with (first
        | (at_len; refine wpList_len_own _ rfl (.tmp 20) 52 rfl 59 3 Tryz.underlying52 _ b1 _ D1 rfl hD1 ?_; rw [hD1s])
        | (go_at_call 29; refine hz.mono ?_; rintro e w5 ⟨g, rfl, hg1, hg2, hrow, hB5⟩; rw [Nat.zero_mul] at hrow; have zb := HZ4.out.of_below hB5 hl4; have hpt := zb.put 0 C.length (.slice (some ⟨g, 0, none⟩) (0) (0)); obtain ⟨⟨q00, q01⟩, ⟨q10, q11⟩, ⟨q20, q21⟩⟩ := zb; have t0 := hpt.c0.1; have t1 := hpt.c1.1; have t2 := hpt.c2.1; have HB5 : Hid (Below Z w w5) := HB4.out.trans (hB5.mono (by omega)); have HRW : Hid (w5.rowIs g 3 (0) (fun j => .int .i64 (0))) := hrow; unfold matV; (try rw [Nat.zero_mul]); (try rw [Nat.mul_zero]); clear hpt hrow hB5)
        | fail)
      refine bodyPost_ret (v := .tuple #[.agg #[.int .i64 (0 : Int), .int .i64 (C.length : Int), .slice (some ⟨g, 0, none⟩) (0) (0)], .nilIface]) ?_ rfl ?_
      · simp [results, Tryz.f13, go_sem, t0, t1, t2]
      · unfold BoundSays
        rw [HZZ.out]
        refine ⟨mat_put_below HB5.out _ _ _, .inr (.inr ⟨HO.out, by omega, .slice (some ⟨g, 0, none⟩) (0) (0), by rw [colsC_zero, List.length_map, HCC.out]; unfold rowsC; simp, ?_⟩)⟩
        refine bound_put (F := fun _ => 0) HRW.out (by omega) ?_ (fun j hj => by simp at hj)
        unfold borderC; rw [matL_len]; unfold rowsC; simp
    · by_cases h1 : d = 1
      · subst h1
        have hz := ends_ b1 b2 av n cv C E W4 HM1.out HM2.out hb12 HFA.out.1.1 HFA.out.1.2.1 HFA.out.2.1 HEN.out.1 HFA.out.2.2.2.2.1 HFA.out.2.2.2.2.2.1
        go_wp2_with (first
          | (go_at_call 30; refine hz.mono ?_; rintro e w5 ⟨g, rfl, hg1, hg2, hrow, hB5⟩; have zb := HZ4.out.of_below hB5 hl4; have hpt := zb.put C.length E.length (.slice (some ⟨g, 0, none⟩) (C.length * E.length) (C.length * E.length)); obtain ⟨⟨q00, q01⟩, ⟨q10, q11⟩, ⟨q20, q21⟩⟩ := zb; have t0 := hpt.c0.1; have t1 := hpt.c1.1; have t2 := hpt.c2.1; have HB5 : Hid (Below Z w w5) := HB4.out.trans (hB5.mono (by omega)); have HRW : Hid (w5.rowIs g 3 (C.length * E.length) (fun j => .int .i64 (endF C E (fun _ => false) j))) := hrow; unfold matV; (try rw [Nat.zero_mul]); (try rw [Nat.mul_zero]); clear hpt hrow hB5)
          | fail)
        refine bodyPost_ret (v := .tuple #[.agg #[.int .i64 (C.length : Int), .int .i64 (E.length : Int), .slice (some ⟨g, 0, none⟩) (C.length * E.length) (C.length * E.length)], .nilIface]) ?_ rfl ?_
        · simp [results, Tryz.f13, go_sem, t0, t1, t2]
        · unfold BoundSays
          rw [HZZ.out]
          refine ⟨mat_put_below HB5.out _ _ _, .inr (.inr ⟨HO.out, by omega, .slice (some ⟨g, 0, none⟩) (C.length * E.length) (C.length * E.length), by rw [rowsC_one, colsC_one, List.length_map, List.length_map, HCC.out, HEE.out], ?_⟩)⟩
          refine bound_put (F := fun j => endF C E (fun _ => false) j) HRW.out (by omega) ?_ (fun j hj => ?_)
          · unfold borderC; rw [matL_len, rowsC_one, colsC_one, List.length_map, List.length_map, HCC.out, HEE.out]
          · have h := border_one m (j := j) (by rw [HCC.out, HEE.out]; exact hj)
            rw [HCC.out, HEE.out] at h
            exact h
      · by_cases h2 : d = 2
        · subst h2
          have hz := sides_ b1 b2 (.slice av n cv) E S W4 HM2.out HQ.out HFA.out.1.2.2 HFA.out.2.2.1 HFA.out.2.2.2.1 HEN.out.2 HFA.out.2.2.2.2.2.1 HFA.out.2.2.2.2.2.2
          go_wp2_with (first
            | (go_at_call 31; refine hz.mono ?_; rintro e w5 ⟨g, rfl, hg1, hg2, hrow, hB5⟩; have zb := HZ4.out.of_below hB5 hl4; have hpt := zb.put E.length S.length (.slice (some ⟨g, 0, none⟩) (E.length * S.length) (E.length * S.length)); obtain ⟨⟨q00, q01⟩, ⟨q10, q11⟩, ⟨q20, q21⟩⟩ := zb; have t0 := hpt.c0.1; have t1 := hpt.c1.1; have t2 := hpt.c2.1; have HB5 : Hid (Below Z w w5) := HB4.out.trans (hB5.mono (by omega)); have HRW : Hid (w5.rowIs g 3 (E.length * S.length) (fun j => .int .i64 (sideF E S S.length j))) := hrow; unfold matV; (try rw [Nat.zero_mul]); (try rw [Nat.mul_zero]); clear hpt hrow hB5)
            | fail)
          refine bodyPost_ret (v := .tuple #[.agg #[.int .i64 (E.length : Int), .int .i64 (S.length : Int), .slice (some ⟨g, 0, none⟩) (E.length * S.length) (E.length * S.length)], .nilIface]) ?_ rfl ?_
          · simp [results, Tryz.f13, go_sem, t0, t1, t2]
          · unfold BoundSays
            rw [HZZ.out]
            refine ⟨mat_put_below HB5.out _ _ _, .inr (.inr ⟨HO.out, by omega, .slice (some ⟨g, 0, none⟩) (E.length * S.length) (E.length * S.length), by rw [rowsC_two, colsC_two, List.length_map, List.length_map, HEE.out, HSS.out], ?_⟩)⟩
            refine bound_put (F := fun j => sideF E S S.length j) HRW.out (by omega) ?_ (fun j hj => ?_)
            · unfold borderC; rw [matL_len, rowsC_two, colsC_two, List.length_map, List.length_map, HEE.out, HSS.out]
            · have h := border_two m (j := j) (by rw [HEE.out, HSS.out]; exact hj)
              rw [HEE.out, HSS.out] at h
              exact h
        · by_cases h3 : d = 3
          · subst h3
            have hz := zeros_ n 0 (by have := HFA.out.2.2.2.2.2.2; have := HNN.out; omega) (by omega) W4
            go_wp2_with (first
              | (go_at_call 29; refine hz.mono ?_; rintro e w5 ⟨g, rfl, hg1, hg2, hrow, hB5⟩; rw [Nat.mul_zero] at hrow; have zb := HZ4.out.of_below hB5 hl4; have hpt := zb.put n 0 (.slice (some ⟨g, 0, none⟩) (0) (0)); obtain ⟨⟨q00, q01⟩, ⟨q10, q11⟩, ⟨q20, q21⟩⟩ := zb; have t0 := hpt.c0.1; have t1 := hpt.c1.1; have t2 := hpt.c2.1; have HB5 : Hid (Below Z w w5) := HB4.out.trans (hB5.mono (by omega)); have HRW : Hid (w5.rowIs g 3 (0) (fun j => .int .i64 (0))) := hrow; unfold matV; (try rw [Nat.zero_mul]); (try rw [Nat.mul_zero]); clear hpt hrow hB5)
              | fail)
            refine bodyPost_ret (v := .tuple #[.agg #[.int .i64 (n : Int), .int .i64 (0 : Int), .slice (some ⟨g, 0, none⟩) (0) (0)], .nilIface]) ?_ rfl ?_
            · simp [results, Tryz.f13, go_sem, t0, t1, t2]
            · unfold BoundSays
              rw [HZZ.out]
              refine ⟨mat_put_below HB5.out _ _ _, .inr (.inr ⟨HO.out, by omega, .slice (some ⟨g, 0, none⟩) (0) (0), by rw [rowsC_three, colsC_three, List.length_map, HSS.out, HNN.out]; simp, ?_⟩)⟩
              refine bound_put (F := fun _ => 0) HRW.out (by omega) ?_ (fun j hj => by simp at hj)
              unfold borderC; rw [matL_len, colsC_three]; simp
          · have g1 : W4.cell? ⟨0, 0, none⟩ = some (.iface 172 (.pointer (some (a 1)))) := (HM.out.2.below (by rw [HZZ.out]; exact HB4.out)).glob 1 (by decide)
            have zb := HZ4.out
            have hpt := zb.put 0 0 (.slice none 0 0)
            obtain ⟨⟨q00, q01⟩, ⟨q10, q11⟩, ⟨q20, q21⟩⟩ := zb
            have t0 := hpt.c0.1
            have t1 := hpt.c1.1
            have t2 := hpt.c2.1
            have e0 : (d == 0) = false := beq_false_of_ne h0
            have e1 : (d == 1) = false := beq_false_of_ne h1
            have e2 : (d == 2) = false := beq_false_of_ne h2
            have e3 : (d == 3) = false := beq_false_of_ne h3
            have HD : Hid (¬ (0 ≤ d ∧ d ≤ 3)) := fun h => by omega
            have hgZ : 0 < Z := by rw [← HZZ.out]; exact cell_lt (HM.out.2.glob 1 (by decide))
            have g1s : (((W4.setCell ⟨Z, 0, none⟩ (.int .i64 0)).setCell ⟨Z, 1, none⟩ (.int .i64 0)).setCell ⟨Z, 2, none⟩ (.slice none 0 0)).cell? ⟨0, 0, none⟩ = some (.iface 172 (.pointer (some (a 1)))) := by
              rw [World.cell?_setCell_other _ _ _ _ (addr_ne (.inl (by omega))), World.cell?_setCell_other _ _ _ _ (addr_ne (.inl (by omega))), World.cell?_setCell_other _ _ _ _ (addr_ne (.inl (by omega)))]
              exact g1
            clear hpt h0 h1 h2 h3
            go_wp2_with fail
            go_region
            all_goals go_wp2_with fail
            all_goals refine bodyPost_ret (v := noMat (errV (a 1))) ?_ rfl ?_
            all_goals first
              | (simp [results, Tryz.f13, go_sem, t0, t1, t2, noMat, errV]; done)
              | (unfold BoundSays; rw [HZZ.out]; exact ⟨(mat_put_below HB4.out _ _ _).drew, .inr (.inl ⟨HO.out, HD.out, rfl⟩)⟩)

end Go.Proofs.YtbmojlnkjeapkaaGreatDoor
