/- What the reference's Closed answers: all faces of the sets in order, or which error they have. -/
import Derived.Test.YthmjdfjchhohgaaGreatDoorClosedDefs
import Derived.Maps.RangeWalk
import Derived.Deep.Light
namespace Go.Proofs.YthmjdfjchhohgaaGreatDoor
open Go.RowKit Go.Sort

set_option maxRecDepth 100000 in
set_option maxHeartbeats 2000000 in
theorem closed_ (vl : Value) (l : List (List Int)) (w : World) (hl : Rows w vl l) (hll : l.length ≤ 100000) (hle : ∀ x ∈ l, x.length ≤ 1000) :
    Calls Tryz.prog 16 #[vl] w fun e w' => ClosedSays l w e w' := by
  obtain ⟨i0, hi, hz0, hz1, hz2⟩ := info_parts Tryz.info23
  obtain ⟨j0, hj0, hy0, hy1, hy2⟩ := info_parts Tryz.info3
  have HE : Hid (∀ x ∈ l, x.length ≤ 1000) := hle
  obtain ⟨a, ca, rfl, -, ha⟩ := hl.open_
  clear hle
  go_enter Tryz.func16, Tryz.ntmps16
  go_wp2
  go_loopw [4, 5] (fun v i wr => ∃ k : Nat, k ≤ l.length ∧ i = .int .i64 k ∧ (∀ x ∈ l.take k, SetOk x) ∧ OwnRows w.heap.size wr v ((l.take k).map srt) ∧ Below w.heap.size w wr)
    (fun _ i _ => l.length - (intOf i).toNat)
  case atStart => exact ⟨0, by omega, rfl, by simp, OwnRows.nil _ _, Below.refl _ _⟩
  case round =>
    obtain ⟨k, hk, rfl, hok, hown, hB⟩ := hrel
    have HK : Hid (∀ x ∈ l.take k, SetOk x) := hok
    have HOW : Hid (OwnRows w.heap.size wr _ ((l.take k).map srt)) := hown
    clear hok
    by_cases hlt : k < l.length
    · obtain ⟨b, o, rfl, -, hb, c⟩ := ha (by omega)
      obtain ⟨a1, p1, g1, i1⟩ := c k hlt
      have hlen : (l[k]?.getD []).length ≤ 1000 := HE.out _ (by rw [List.getElem?_eq_getElem hlt]; simp)
      obtain ⟨x, hxe⟩ : ∃ x, l[k]?.getD [] = x := ⟨_, rfl⟩
      rw [hxe] at g1 i1 hlen
      have HX : Hid (l[k]?.getD [] = x) := hxe
      have g2 : wr.cell? ⟨b, o + k, none⟩ = some (.slice a1 x.length p1) := (hB.cell (p := ⟨b, o + k, none⟩) hb).trans g1
      have hc := sorted_ _ x wr (i1.below hB) hlen
      clear c ha hl g1 i1 hxe hown
      go_wp2_with fail
      refine hc.mono ?_
      rintro e w2 ⟨vf, out, rfl, hif, hrise, hmem, hlen2, hB2⟩
      have HIF : Hid (IntsIn (fun b => wr.heap.size ≤ b) w2 vf out) := hif
      have HR : Hid (Rising out) := hrise
      have HM : Hid (∀ v, v ∈ out ↔ v ∈ x) := hmem
      have hBw2 : Below w.heap.size w w2 := hB.trans (hB2.mono hB.size)
      obtain ⟨af, cf, rfl, hcf, hfo⟩ := hif.open_
      clear hrise hmem hif hc
      by_cases h0 : out.length = 0
      · have hnok := not_ok_empty HM.out h0
        clear hfo
        go_wp2
        go_ret2
        exact .bad hBw2 hlt (by rw [HX.out]; exact hnok) rfl
      · obtain ⟨bf, of, rfl, -, -, cfo⟩ := hfo (by omega)
        have gf0 := cfo 0 (by omega)
        rw [Nat.add_zero] at gf0
        obtain ⟨n1, hn1⟩ : ∃ n1, out.length - 1 = n1 := ⟨_, rfl⟩
        have hnlt : n1 < out.length := by omega
        have gfl := cfo n1 hnlt
        obtain ⟨y0, hye⟩ : ∃ y, out[0]?.getD 0 = y := ⟨_, rfl⟩
        obtain ⟨yl, hyl⟩ : ∃ y, out[n1]?.getD 0 = y := ⟨_, rfl⟩
        rw [hye] at gf0
        rw [hyl] at gfl
        have HY0 : Hid (out[0]?.getD 0 = y0) := hye
        have HYL : Hid (out[out.length - 1]?.getD 0 = yl) := by rw [hn1]; exact hyl
        have hnum : ((out.length : Int) - 1) = (n1 : Int) := by omega
        have h0b : ((out.length : Int) == 0) = false := beq_false_of_ne (by omega)
        have hp : 0 < out.length := by omega
        clear hye hyl cfo hfo hn1 h0
        by_cases hnd : x.Nodup
        · have hndd : decide x.Nodup = true := decide_eq_true hnd
          by_cases hlo : y0 < 0
          · have hnok := not_ok_low HM.out hp (by rw [HY0.out]; exact hlo)
            go_wp2
            go_ret2
            exact .bad hBw2 hlt (by rw [HX.out]; exact hnok) rfl
          · by_cases hhi : 99 < yl
            · have hnok := not_ok_high HM.out hp (by rw [HYL.out]; exact hhi)
              go_wp2
              go_ret2
              exact .bad hBw2 hlt (by rw [HX.out]; exact hnok) rfl
            · have HOK : Hid (SetOk x) := ok_of hnd HR.out HM.out hp (by rw [HY0.out]; exact hlo) (by rw [HYL.out]; exact hhi)
              have HS : Hid (out = srt x) := srt_told hnd HR.out HM.out
              obtain ⟨vs, ho1, ho2⟩ := HOW.out.below hB2
              have HO2 : Hid (∀ (k' : Nat) (u : Value) (x : List Int), vs[k']? = some u → ((l.take k).map srt)[k']? = some x → IntsIn (fun b => w.heap.size ≤ b ∧ some b ≠ Value.ownBlock _) w2 u x) := ho2
              have HO1 : Hid (w2.ownsRow w.heap.size 23 1 _ ((l.take k).map srt).length vs) := ho1
              have hks : ((l.take k).map srt).length = k := by simp; omega
              rw [hks] at ho1
              have hbl : w.heap.size ≤ w2.heap.size := hBw2.size
              clear hnd ho2
              go_wp2_with (first
                | (at_builtin; refine wpList_append_slice rfl (.tmp 49) (.tmp 51) 22 rfl w.heap.size 23 i0 (.slice none 0 0) 24 Tryz.underlying22 hi hz0 hz1 hz2 rfl _ _ _ rfl (ho1.alloc _) _ [.slice (some ⟨bf, of, none⟩) out.length cf] rfl (slice_one _ _ _) (by simp [Value.oneCell']) (by simp; omega) (by unfold maxLen; simp; omega) (by simp; omega) ?_; intro v3 w4 hown3 hg3 hl3)
                | go_in)
              go_roundw
              case rel =>
                have hu : IntsIn (fun b => w.heap.size ≤ b ∧ some b ≠ Value.ownBlock u4) w2 (.slice (some ⟨bf, of, none⟩) out.length cf) (srt x) := by
                  rw [← HS.out]
                  exact SliceIn.mono HIF.out (fun b _ hge => ⟨Nat.le_trans hB.size hge, fun e => by
                    have := (HOW.out.block e.symm).2
                    omega⟩)
                have hown4 : w4.ownsRow w.heap.size 23 1 v3 (((l.take k).map srt).length + 1) (vs ++ [.slice (some ⟨bf, of, none⟩) out.length cf]) := by rw [hks]; exact hown3
                exact ⟨k + 1, by omega, by go_num, take_ok hlt HK.out (by rw [HX.out]; exact HOK.out), by rw [take_map_snoc hlt, HX.out]; exact OwnRows.push HO1.out HO2.out hu hown4 hg3 hl3,
                  (hBw2.alloc hbl _).grown hg3 (by simp; omega) (fun j hj => (ho1.lt j hj).1)⟩
              case measure => simp [intOf]; omega
        · have hndd : decide x.Nodup = false := decide_eq_false hnd
          have hnok : ¬ SetOk x := fun h => hnd h.2.1
          go_wp2
          go_ret2
          exact .bad hBw2 hlt (by rw [HX.out]; exact hnok) rfl
    · obtain rfl : k = l.length := by omega
      have hrow : Rows wr u4 (l.map srt) := by have := HOW.out.rows; rw [List.take_length] at this; exact this
      have hok : ∀ x ∈ l, SetOk x := by have := HK.out; rw [List.take_length] at this; exact this
      have HAK : Hid (∀ x ∈ l, SetOk x) := hok
      obtain ⟨ts, hts⟩ : ∃ ts, l.map srt = ts := ⟨_, rfl⟩
      rw [hts] at hrow
      have HTS : Hid (l.map srt = ts) := hts
      have htl : ts.length ≤ 100000 := by rw [← hts]; simpa using hll
      obtain ⟨a4, c4, rfl, -, h4⟩ := hrow.open_
      obtain ⟨W0, hW0⟩ : ∃ W, W = wr := ⟨_, rfl⟩
      subst hW0
      clear hown HOW HK hok hrow ha hl hts hi hz0 hz1 hz2 HE
      go_wp2
      go_loopw [8, 9] (fun va i W => ∃ (k : Nat) (all : List (List Int)), k ≤ ts.length ∧ i = .int .i64 k ∧ IsAll (ts.take k) all ∧ (∀ t ∈ ts.take k, t.length ≤ 7) ∧ all.length ≤ 600 ∧ RowsIn (fun bl => w.heap.size ≤ bl) W va all ∧ Below W0.heap.size W0 W)
        (fun _ i _ => ts.length - (intOf i).toNat)
      case atStart => exact ⟨0, [], by omega, rfl, ⟨by simp, fun x => ⟨fun h => (by cases h), fun ⟨_, u, hu, _⟩ => (by simp at hu)⟩⟩, by simp, by simp, ⟨[], SliceIn.nil _ _, rfl, fun k u x hu => by simp at hu⟩, Below.refl _ _⟩
      case round =>
        obtain ⟨k, all, hk2, rfl, hall, h7, h600, hrow, hB0⟩ := hrel
        have HAL : Hid (IsAll (ts.take k) all) := hall
        have H7 : Hid (∀ t ∈ ts.take k, t.length ≤ 7) := h7
        have HRW : Hid (RowsIn (fun bl => w.heap.size ≤ bl) wr u8 all) := hrow
        clear hall h7 hrow
        by_cases hlt2 : k < ts.length
        · obtain ⟨b, o, rfl, -, hb, c⟩ := h4 (by omega)
          obtain ⟨a1, p1, g1, i1⟩ := c k hlt2
          obtain ⟨t, hte⟩ : ∃ x, ts[k]?.getD [] = x := ⟨_, rfl⟩
          rw [hte] at g1 i1
          have HT : Hid (ts[k]?.getD [] = t) := hte
          have g2 : wr.cell? ⟨b, o + k, none⟩ = some (.slice a1 t.length p1) := (hB0.cell (p := ⟨b, o + k, none⟩) hb).trans g1
          have hBw0 : Below w.heap.size w wr := hB.trans (hB0.mono hB.size)
          by_cases ht7 : 7 < t.length
          · go_wp2
            go_ret2
            exact .over hBw0 HAK.out HTS.out (over_big hlt2 HT.out ht7) rfl
          · obtain ⟨N, hN⟩ : ∃ N, N = 2 ^ t.length := ⟨_, rfl⟩
            have HN : Hid (N = 2 ^ t.length) := hN
            have hN128 : N ≤ 128 := by rw [hN]; exact Nat.pow_le_pow_right (by decide) (show t.length ≤ 7 by omega)
            have hN1 : 1 ≤ N := by rw [hN]; exact Nat.one_le_two_pow
            have hshl : wrap64 ((2 : Int) ^ t.length) = (N : Int) := by rw [hN]; exact shl_int (by omega)
            clear hN
            go_wp2
            go_loopw [8, 10] (fun va p W => ∃ (n : Nat) (all' : List (List Int)), 1 ≤ n ∧ n ≤ N ∧ p = .int .i64 n ∧ Order all' ∧ (∀ x, x ∈ all' ↔ FaceOf (ts.take k) x ∨ ∃ b, 1 ≤ b ∧ b < n ∧ x = pick b t) ∧ all'.length ≤ 600 ∧ RowsIn (fun bl => w.heap.size ≤ bl) W va all' ∧ Below W0.heap.size W0 W)
              (fun _ p _ => N - (intOf p).toNat)
            case atStart => exact ⟨1, all, by omega, by omega, rfl, HAL.out.order, fun x => by rw [HAL.out.mem]; exact ⟨.inl, fun h => h.elim id (fun ⟨b, h1, h2, _⟩ => by omega)⟩, h600, HRW.out, hB0⟩
            case round =>
              obtain ⟨n, all', hn1, hn2, rfl, hord, hmem, h600', hrow, hB3⟩ := hrel
              have HOR : Hid (Order all') := hord
              have HMM : Hid (∀ x, x ∈ all' ↔ FaceOf (ts.take k) x ∨ ∃ b, 1 ≤ b ∧ b < n ∧ x = pick b t) := hmem
              have HRW : Hid (RowsIn (fun bl => w.heap.size ≤ bl) wr u8 all') := hrow
              have g3 : wr.cell? ⟨b, o + k, none⟩ = some (.slice a1 t.length p1) := (hB3.cell (p := ⟨b, o + k, none⟩) hb).trans g1
              clear hord hmem hrow
              by_cases hnN : n < N
              · obtain ⟨W3, hW3⟩ : ∃ W, W = wr := ⟨_, rfl⟩
                subst hW3
                go_wp2
                try rw [hshl]
                clear hshl
                go_loopw [11, 12] (fun vf p W => ∃ j : Nat, j ≤ t.length ∧ p = .int .i64 j ∧ W.ownsRow W3.heap.size 3 1 vf (pick n (t.take j)).length ((pick n (t.take j)).map (Value.int .i64)) ∧ Below W3.heap.size W3 W)
                  (fun _ p _ => t.length - (intOf p).toNat)
                case atStart => exact ⟨0, by omega, rfl, by simp [pick]; exact World.ownsRow_nil _ _ _ _, Below.refl _ _⟩
                case round =>
                  obtain ⟨j, hj, rfl, hown, hB4⟩ := hrel
                  have g4 : wr.cell? ⟨b, o + k, none⟩ = some (.slice a1 t.length p1) := (hB4.cell (p := ⟨b, o + k, none⟩) (cell_lt g3)).trans g3
                  have HOW4 : Hid (wr.ownsRow W3.heap.size 3 1 u11 (pick n (t.take j)).length ((pick n (t.take j)).map (Value.int .i64))) := hown
                  clear hown
                  by_cases hjt : j < t.length
                  · by_cases hbit : n / 2 ^ j % 2 = 1
                    · have hbb : ((((n : Int) / 2 ^ j).tmod 2) == 1) = true := by rw [bit_int, decide_eq_true hbit]
                      obtain ⟨at1, ct1, e1, -, it⟩ := i1.open_
                      cases e1
                      obtain ⟨bt, ot, rfl, -, hbt, ct⟩ := it (by omega)
                      have g5 : wr.cell? ⟨bt, ot + j, none⟩ = some (.int .i64 (t[j]?.getD 0)) :=
                        (hB4.cell (p := ⟨bt, ot + j, none⟩) (Nat.lt_of_lt_of_le hbt hB3.size)).trans ((hB3.cell (p := ⟨bt, ot + j, none⟩) hbt).trans (ct j hjt))
                      obtain ⟨y, hye⟩ : ∃ y, t[j]?.getD 0 = y := ⟨_, rfl⟩
                      rw [hye] at g5
                      have HY : Hid (t[j]?.getD 0 = y) := hye
                      have hpl : (pick n (t.take j)).length ≤ 7 := by have := (pick_sub n (t.take j)).length_le; simp at this; omega
                      have hpt : pick n (t.take (j + 1)) = pick n (t.take j) ++ [y] := by
                        rw [pick_take n j t hjt, if_pos hbit, ← hye, List.getElem?_eq_getElem hjt, Option.getD_some]
                      have HPT : Hid (pick n (t.take (j + 1)) = pick n (t.take j) ++ [y]) := hpt
                      obtain ⟨pk, hpk⟩ : ∃ p, pick n (t.take j) = p := ⟨_, rfl⟩
                      rw [hpk] at hpl
                      have ho4 : wr.ownsRow W3.heap.size 3 1 u11 pk.length (pk.map (Value.int .i64)) := by rw [← hpk]; exact HOW4.out
                      have HPK : Hid (pick n (t.take j) = pk) := hpk
                      clear hye hpt hpk ct it hbit i1
                      go_wp2_with (first
                        | (at_builtin; refine wpList_append_slice rfl (.tmp 89) (.tmp 97) 23 rfl W3.heap.size 3 j0 (.int .i64 0) 8 Tryz.underlying23 hj0 hy0 hy1 hy2 rfl _ _ _ rfl (ho4.alloc _) _ [.int .i64 y] rfl (slice_one _ _ _) (ints_one [y]) (by simp; omega) (by unfold maxLen; simp; omega) (by have := hB4.size; simp; omega) ?_; intro v5 w5 hown5 hg5 hl5)
                        | go_in)
                      (try go_frame)
                      have hrel5 : w5.ownsRow W3.heap.size 3 1 v5 (pick n (t.take (j + 1))).length ((pick n (t.take (j + 1))).map (Value.int .i64)) := by
                        go_light
                        rw [HPT.out, HPK.out]
                        simpa using hown5
                      have hB55 := below_push hB4 ho4 hg5
                      have hj1 : j + 1 ≤ t.length := hjt
                      go_roundw
                      case rel =>
                        go_light
                        repeat (first | exact ⟨j + 1, hj1, by go_num, hrel5, hB55⟩ | refine And.intro ?_ (Eq.refl _) | apply Exists.intro)
                      case measure => go_light; simp [intOf]; omega
                    · have hbb : ((((n : Int) / 2 ^ j).tmod 2) == 1) = false := by rw [bit_int, decide_eq_false hbit]
                      have HPT : Hid (pick n (t.take (j + 1)) = pick n (t.take j)) := by
                        show pick n (t.take (j + 1)) = pick n (t.take j)
                        rw [pick_take n j t hjt, if_neg hbit, List.append_nil]
                      clear hbit
                      go_wp2
                      go_roundw
                      case rel =>
                        go_light
                        exact ⟨j + 1, by omega, by go_num, by rw [HPT.out]; exact HOW4.out, hB4⟩
                      case measure => go_light; simp [intOf]; omega
                  · obtain rfl : j = t.length := by omega
                    have ho4 := HOW4.out
                    rw [List.take_length] at ho4
                    have hW3s : w.heap.size ≤ W3.heap.size := Nat.le_trans hB.size hB3.size
                    have hif : IntsIn (fun bl => w.heap.size ≤ bl) wr u11 (pick n t) := slice_of_owns ho4 (fun bl h _ => Nat.le_trans hW3s h)
                    have hBw4 : Below w.heap.size w wr := below4 hB hB3 hB4
                    have hB04 : Below W0.heap.size W0 wr := hB3.trans (hB4.mono hB3.size)
                    have hput := put_ (base := w.heap.size) u8 u11 all' (pick n t) wr hBw4.size (HRW.out.below hB4) hif HOR.out (by omega) (faces_short (by omega) H7.out HMM.out)
                    clear ho4 hif i1
                    go_wp2_with fail
                    refine hput.mono ?_
                    rintro e w5 ⟨vr, r, rfl, hr, hor, hmr, hB5⟩
                    have HRR : Hid (RowsIn (fun bl => w.heap.size ≤ bl) w5 vr r) := hr
                    have HORR : Hid (Order r) := hor
                    have HMR : Hid (∀ x, x ∈ r ↔ x ∈ all' ∨ x = pick n t) := hmr
                    obtain ⟨ar, cr, rfl, -, -⟩ := hr.open_
                    clear hr hor hmr hput
                    have hBw5 : Below w.heap.size w w5 := hBw4.trans (hB5.mono hBw4.size)
                    have hB05 : Below W0.heap.size W0 w5 := hB04.trans (hB5.mono hB04.size)
                    by_cases h6 : 600 < r.length
                    · have hov : Over ts := over_put hlt2 HT.out HN.out hn1 hnN HMM.out HMR.out HORR.out h6
                      go_wp2
                      go_ret2
                      exact .over hBw5 HAK.out HTS.out hov rfl
                    · have H6 : Hid (r.length ≤ 600) := Nat.le_of_not_lt h6
                      have HMS : Hid (∀ x, x ∈ r ↔ FaceOf (ts.take k) x ∨ ∃ b, 1 ≤ b ∧ b < n + 1 ∧ x = pick b t) := mem_put hn1 HMM.out HMR.out
                      go_wp2
                      (try go_frame)
                      have hnn1 : 1 ≤ n + 1 := Nat.le_add_left _ _
                      have hnn2 : n + 1 ≤ N := hnN
                      go_roundw
                      case rel =>
                        go_light
                        repeat (first | exact ⟨n + 1, r, hnn1, hnn2, by go_num, HORR.out, HMS.out, H6.out, HRR.out, hB05⟩ | refine And.intro ?_ (Eq.refl _) | apply Exists.intro)
                      case measure =>
                        go_light
                        simp [intOf]; omega
              · obtain rfl : n = N := Nat.le_antisymm hn2 (Nat.le_of_not_lt hnN)
                clear i1
                go_wp2
                go_roundw
                case rel =>
                  go_light
                  refine ⟨k + 1, all', by omega, by go_num, ⟨HOR.out, fun x => ?_⟩, take_short hlt2 HT.out (by omega) H7.out, h600', HRW.out, hB3⟩
                  rw [HMM.out, HN.out]
                  exact faces_step hlt2 HT.out x
                case measure => go_light; simp [intOf]; omega
        · obtain rfl : k = ts.length := by omega
          have hall := HAL.out
          have h7 := H7.out
          rw [List.take_length] at hall h7
          have HG : Hid (IsAll ts all) := hall
          have hno := not_over hall h7 h600
          have hBw0 : Below w.heap.size w wr := hB.trans (hB0.mono hB.size)
          clear h4 hall h7
          go_wp2
          go_ret2
          exact .good hBw0 HAK.out HTS.out hno rfl HRW.out HG.out h600

end Go.Proofs.YthmjdfjchhohgaaGreatDoor
