/- near: it answers a slice, and leaves alone what is not its own. -/
import Derived.Test.YtmndhclmhjmbpaaGreatDoorIdxThings
import Derived.Test.YtmndhclmhjmbpaaGreatDoorTab
import Derived.Test.YtmndhclmhjmbpaaGreatDoorIdxTab
import Derived.Test.YtmndhclmhjmbpaaGreatDoorVector
namespace Go.Proofs.YtmndhclmhjmbpaaGreatDoor
open Go.RowKit Go.Sort Go.Maps

set_option maxRecDepth 100000 in
set_option maxHeartbeats 8000000 in
theorem near_ (vl vf : Value) (l F : List (List Int)) (w : World) (hl : FacesOk l) (hll : l.length ≤ 600) (hF : FacesOk F) (hFl : F.length ≤ 1000) (hne : l ≠ [] → F ≠ []) (hrl : Rows w vl l) (hrf : Rows w vf F) :
    Calls Tryz.prog 86 #[vl, vf] w fun e w' => ∃ a n c, e = .returned (.slice a n c) ∧ Below w.heap.size w w' := by
  obtain ⟨j0, hj0, hy0, hy1, hy2⟩ := info_parts Tryz.info3
  have hmm := @run_makeMap Tryz.prog
  have hmk := fun W => run_make_row' (P := Tryz.prog) 22 23 (.slice none 0 0) 24 Tryz.underlying22 Tryz.info23 rfl .i64 .i64 F.length (by omega) (by omega) W
  obtain ⟨a0, c0, rfl, -, hc⟩ := hrf.open_
  obtain ⟨al, cl, rfl, -, hcl⟩ := hrl.open_
  have HC : Hid (∀ k, k < F.length → ∃ b o b1 o1 p1 n x y, a0 = some ⟨b, o, none⟩ ∧ b < w.heap.size ∧ w.cell? ⟨b, o + k, none⟩ = some (.slice (some ⟨b1, o1, none⟩) (n + 1) p1) ∧ b1 < w.heap.size ∧ n ≤ 7 ∧ x < 100 ∧ y < 100 ∧ w.cell? ⟨b1, o1, none⟩ = some (.int .i64 (x : Nat)) ∧ w.cell? ⟨b1, o1 + n, none⟩ = some (.int .i64 (y : Nat))) := fun k hk => by
    obtain ⟨b, o, rfl, -, hb, c⟩ := hc (by omega)
    obtain ⟨a1, p1, g1, i1⟩ := c k hk
    have hm : F[k]?.getD [] ∈ F := by rw [List.getElem?_eq_getElem hk]; exact List.getElem_mem hk
    obtain ⟨h1, h2, h3⟩ := hF _ hm
    obtain ⟨f, hf⟩ : ∃ f, F[k]?.getD [] = f := ⟨_, rfl⟩
    rw [hf] at g1 i1 h1 h2 h3
    have hpos : 0 < f.length := List.length_pos_iff.2 h1
    obtain ⟨n, hn⟩ : ∃ n, f.length = n + 1 := ⟨f.length - 1, by omega⟩
    obtain ⟨a1', p1', e1, -, hx1⟩ := i1.open_
    obtain ⟨rfl, rfl⟩ : a1 = a1' ∧ p1 = p1' := by simpa using e1
    obtain ⟨b1, o1, rfl, -, hb1, hc1⟩ := hx1 hpos
    have q1 := hc1 0 hpos
    have q2 := hc1 n (by omega)
    have m1 : f[0]?.getD 0 ∈ f := by rw [List.getElem?_eq_getElem hpos]; exact List.getElem_mem hpos
    have m2 : f[n]?.getD 0 ∈ f := by rw [List.getElem?_eq_getElem (by omega)]; exact List.getElem_mem _
    have b1' := h3 _ m1
    have b2' := h3 _ m2
    rw [hn] at g1
    refine ⟨b, o, b1, o1, p1, n, (f[0]?.getD 0).toNat, (f[n]?.getD 0).toNat, rfl, hb, g1, hb1, by omega, by omega, by omega, ?_, ?_⟩
    · rw [Int.toNat_of_nonneg b1'.1]; exact q1
    · rw [Int.toNat_of_nonneg b2'.1]; exact q2
  have HL : Hid (∀ k, k < l.length → ∃ b o b1 o1 p1 m, al = some ⟨b, o, none⟩ ∧ b < w.heap.size ∧ w.cell? ⟨b, o + k, none⟩ = some (.slice (some ⟨b1, o1, none⟩) m p1) ∧ b1 < w.heap.size ∧ m ≤ 7 ∧ m ≤ p1 ∧ ∀ j, j < m → ∃ x : Nat, x < 100 ∧ w.cell? ⟨b1, o1 + j, none⟩ = some (.int .i64 (x : Int))) := fun k hk => by
    obtain ⟨b, o, rfl, -, hb, c⟩ := hcl (by omega)
    obtain ⟨a1, p1, g1, i1⟩ := c k hk
    have hm : l[k]?.getD [] ∈ l := by rw [List.getElem?_eq_getElem hk]; exact List.getElem_mem hk
    obtain ⟨h1, h2, h3⟩ := hl _ hm
    obtain ⟨f, hf⟩ : ∃ f, l[k]?.getD [] = f := ⟨_, rfl⟩
    rw [hf] at g1 i1 h1 h2 h3
    obtain ⟨a1', p1', e1, hcap, hx1⟩ := i1.open_
    obtain ⟨rfl, rfl⟩ : a1 = a1' ∧ p1 = p1' := by simpa using e1
    obtain ⟨b1, o1, rfl, -, hb1, hc1⟩ := hx1 (List.length_pos_iff.2 h1)
    refine ⟨b, o, b1, o1, p1, f.length, rfl, hb, g1, hb1, h2, hcap.1, fun j hj => ?_⟩
    have m1 : f[j]?.getD 0 ∈ f := by rw [List.getElem?_eq_getElem hj]; exact List.getElem_mem hj
    have b1' := h3 _ m1
    refine ⟨(f[j]?.getD 0).toNat, by omega, ?_⟩
    rw [Int.toNat_of_nonneg b1'.1]; exact hc1 j hj
  have HNE : Hid (0 < l.length → 0 < F.length) := fun h => List.length_pos_iff.2 (hne (List.length_pos_iff.1 h))
  obtain ⟨n, hn⟩ : ∃ n, F.length = n := ⟨_, rfl⟩
  obtain ⟨m, hm⟩ : ∃ m, l.length = m := ⟨_, rfl⟩
  rw [hn] at HC hmk hFl HNE ⊢
  rw [hm] at HL hll HNE ⊢
  have HB0 : Hid (Below w.heap.size w (w.alloc (.map #[] 0))) := (Below.refl _ w).alloc (Nat.le_refl _) _
  have HN0 : Hid (NumM n 0 w.heap.size (w.alloc (.map #[] 0))) := numM_new n w
  clear hF hl hrl hrf hc hcl hn hm hne
  go_enter Tryz.func86, Tryz.ntmps86
  go_wp2_with fail
  go_loopw [21] (fun p W => ∃ k : Nat, k ≤ n ∧ p = .int .i64 k ∧ NumM n k w.heap.size W ∧ Below w.heap.size w W) (fun p _ => n - (intOf p).toNat)
  case atStart => exact ⟨0, by omega, rfl, HN0.out, HB0.out⟩
  case round =>
    obtain ⟨k, hk, rfl, hn, hB⟩ := hrel
    have HB : Hid (Below w.heap.size w wr) := hB
    have HN : Hid (NumM n k w.heap.size wr) := hn
    clear hn hB
    by_cases hlt : k < n
    · obtain ⟨b, o, b1, o1, p1, n1, x, y, rfl, hb, g1, hb1, hn1, hx, hy, g3, g4⟩ := HC.out k hlt
      have g1' := (HB.out.cell (p := ⟨b, o + k, none⟩) hb).trans g1
      have g3' := (HB.out.cell (p := ⟨b1, o1, none⟩) hb1).trans g3
      have g4' := (HB.out.cell (p := ⟨b1, o1 + n1, none⟩) hb1).trans g4
      obtain ⟨Wu, hup, hnu, hgu⟩ := HN.out.drew.put (x := (x : Int)) (y := (y : Int)) (by omega) hlt (by omega) (by omega) (by omega)
      have HNU : Hid (NumM n (k + 1) w.heap.size Wu) := hnu
      have HBU : Hid (Below w.heap.size w Wu) := HB.out.drew.grown hgu HB.out.drew.size (fun j hj => by cases hj; exact Nat.le_refl _)
      have hw1 : IntKind.i64.wrap (((n1 + 1 : Nat) : Int) - 1) = (n1 : Int) := by rw [show ((n1 + 1 : Nat) : Int) - 1 = (n1 : Int) by omega]; exact wrapI (by omega) (by omega)
      clear g1 g3 g4 HC HL hnu hgu
      go_wp2_with fail
      go_region
      go_wp2_with fail
      go_roundw
      case rel => exact ⟨k + 1, by omega, by go_num, HNU.out, HBU.out⟩
      case measure => simp [intOf]; omega
    · obtain rfl : k = n := by omega
      have hA : Below wr.heap.size wr (wr.alloc (.cells (madeCells #[.slice none 0 0] k) 23)) := (Below.refl _ wr).alloc (Nat.le_refl _) _
      have hNT := nearT_new wr k (w.heap.size + 1) HN.out.lt (by omega)
      have HN1 : Hid (NumM k k w.heap.size (wr.alloc (.cells (madeCells #[.slice none 0 0] k) 23))) := HN.out.below hA
      have HB1 : Hid (Below w.heap.size w (wr.alloc (.cells (madeCells #[.slice none 0 0] k) 23))) := HB.out.alloc HB.out.size _
      obtain ⟨E, hE⟩ : ∃ E, wr.heap.size = E := ⟨_, rfl⟩
      rw [hE] at hNT
      have HT1 : Hid (NearT (w.heap.size + 1) k E 0 (fun _ => False) (wr.alloc (.cells (madeCells #[.slice none 0 0] k) 23))) := hNT
      have hwE : w.heap.size < E := by rw [← hE]; exact HN.out.lt
      clear HC hA hNT HN HB HB0 HN0 hlt hk
      go_wp2_with fail
      go_loopw [44] (fun p W => ∃ q : Nat, q ≤ m ∧ p = .int .i64 q ∧ NumM k k w.heap.size W ∧ NearT (w.heap.size + 1) k E (q * 2401) (fun _ => False) W ∧ Below w.heap.size w W) (fun p _ => m - (intOf p).toNat)
      case atStart => exact ⟨0, by omega, rfl, HN1.out, by simpa using HT1.out, HB1.out⟩
      case round =>
        obtain ⟨q, hq, rfl, hn, ht, hB⟩ := hrel
        by_cases hlt : q < m
        · obtain ⟨b, o, b1, o1, p1, mm, rfl, hb, g1, hb1, hm7, hmp, hcs⟩ := HL.out q hlt
          have hk0 : 0 < k := HNE.out (by omega)
          have g1' := (hB.cell (p := ⟨b, o + q, none⟩) hb).trans g1
          have HCS : Hid (∀ j, j < mm → ∃ x : Nat, x < 100 ∧ w.cell? ⟨b1, o1 + j, none⟩ = some (.int .i64 (x : Int))) := hcs
          obtain ⟨Si, hSi⟩ : ∃ Si, wr.heap.size = Si := ⟨_, rfl⟩
          have ht2 := ht.blocks
          rw [hSi] at ht2
          have HT : Hid (NearT (w.heap.size + 1) k E (q * 2401) (fun b => Si ≤ b) wr) := ht2
          have HN : Hid (NumM k k w.heap.size wr) := hn
          have HB : Hid (Below w.heap.size w wr) := hB
          have hES : E < Si := by rw [← hSi]; exact ht.lt.2
          clear ht ht2 hn hB g1 hcs HL HT1 HN1 HB1 hE
          have HSi : Hid (Si ≤ wr.heap.size) := Nat.le_of_eq hSi.symm
          clear hSi
          go_wp2_with fail
          go_loopw [11, 50] (fun v p W => ∃ (i : Nat) (zs : List Int), i ≤ mm ∧ p = .int .i64 i ∧ W.ownsRow Si 3 1 v zs.length (zs.map (Value.int .i64)) ∧ (∀ z ∈ zs, ∃ j : Nat, z = (j : Int) ∧ j < k) ∧ zs.length ≤ 7 * i ∧ NumM k k w.heap.size W ∧ NearT (w.heap.size + 1) k E (q * 2401) (fun b => Si ≤ b) W ∧ Below w.heap.size w W ∧ Si ≤ W.heap.size) (fun _ p _ => mm - (intOf p).toNat)
          case atStart => exact ⟨0, [], by omega, rfl, World.ownsRow_nil _ _ _ _, fun z hz => by (cases hz), by simp, HN.out, HT.out, HB.out, HSi.out⟩
          case round =>
            obtain ⟨i, zs, hi, rfl, hown, hzs, hzl, hn, ht, hB, hS⟩ := hrel
            by_cases hlt3 : i < mm
            · obtain ⟨x, hx, gx⟩ := HCS.out i hlt3
              have gx' := (hB.cell (p := ⟨b1, o1 + i, none⟩) hb1).trans gx
              have HN3 : Hid (NumM k k w.heap.size wr) := hn
              have HT3 : Hid (NearT (w.heap.size + 1) k E (q * 2401) (fun b => Si ≤ b) wr) := ht
              have HB3 : Hid (Below w.heap.size w wr) := hB
              have HZ3 : Hid ((∀ z ∈ zs, ∃ j : Nat, z = (j : Int) ∧ j < k) ∧ zs.length ≤ 7 * i) := ⟨hzs, hzl⟩
              have hip : i < p1 := by omega
              clear gx hn ht hB hzs hzl
              go_wp2_with fail
              go_loopw [11, 59] (fun v p W => ∃ (j : Nat) (zs : List Int), j ≤ mm - i ∧ p = .int .i64 j ∧ W.ownsRow Si 3 1 v zs.length (zs.map (Value.int .i64)) ∧ (∀ z ∈ zs, ∃ j : Nat, z = (j : Int) ∧ j < k) ∧ zs.length ≤ 7 * i + j ∧ NumM k k w.heap.size W ∧ NearT (w.heap.size + 1) k E (q * 2401) (fun b => Si ≤ b) W ∧ Below w.heap.size w W ∧ Si ≤ W.heap.size) (fun _ p _ => mm - i - (intOf p).toNat)
              case atStart => exact ⟨0, zs, by omega, rfl, hown, HZ3.out.1, by have := HZ3.out.2; omega, HN3.out, HT3.out, HB3.out, hS⟩
              case round =>
                obtain ⟨j, zt, hj, rfl, hown4, hzs, hzl, hn, ht, hB, hS4⟩ := hrel
                have HZ4 : Hid (∀ z ∈ zt, ∃ j : Nat, z = (j : Int) ∧ j < k) := hzs
                by_cases hlt4 : j < mm - i
                · obtain ⟨y, hy, gy⟩ := HCS.out (i + j) (by omega)
                  have gy' : wr.cell? ⟨b1, o1 + i + j, none⟩ = some (.int .i64 (y : Int)) := by
                    have := (hB.cell (p := ⟨b1, o1 + (i + j), none⟩) hb1).trans gy
                    rwa [← Nat.add_assoc] at this
                  obtain ⟨jj, hjj, hrun⟩ := hn.look (x := (x : Int)) (y := (y : Int)) (by omega) (by omega)
                  have hjk : jj < k := by omega
                  have HN4 : Hid (NumM k k w.heap.size wr) := hn
                  have HT4 : Hid (NearT (w.heap.size + 1) k E (q * 2401) (fun b => Si ≤ b) wr) := ht
                  have HB4 : Hid (Below w.heap.size w wr) := hB
                  have hzl2 : zt.length ≤ 100 := by omega
                  have HZL : Hid (zt.length ≤ 7 * i + j) := hzl
                  clear gy hn ht hB hzs hzl hjj hown gx'
                  go_wp2_with (first
                    | (at_builtin; refine wpList_append_slice rfl (.tmp 63) (.tmp 69) 23 rfl Si 3 j0 (.int .i64 0) 8 Tryz.underlying23 hj0 hy0 hy1 hy2 rfl _ _ _ rfl (hown4.alloc _) _ [.int .i64 (jj : Int)] rfl (slice_one _ _ _) (by simp [Value.oneCell']) (by simp; omega) (by unfold maxLen; simp; omega) (by simp; omega) ?_; intro v3 w4 hown3 hg3 hl3)
                    | go_in)
                  (try go_frame)
                  go_roundw
                  case rel =>
                    refine ⟨j + 1, zt ++ [(jj : Int)], by omega, by go_num, by simpa using hown3, fun z hz => ?_, by have := HZL.out; simp; omega, (HN4.out.below ((Below.refl _ wr).alloc (Nat.le_refl _) _)).kept hg3 (fun e => by have := (hown4.lt _ e.symm).1; omega), (HT4.out.below ((Below.refl _ wr).alloc (Nat.le_refl _) _)).keptX hg3 (fun b hb => (hown4.lt b hb).1), (HB4.out.alloc HB4.out.size _).grown hg3 (by have := HB4.out.size; simp; omega) (fun j hj => by have := (hown4.lt j hj).1; omega), by have := hg3.size; simp at this; omega⟩
                    rcases List.mem_append.1 hz with h | h
                    · exact HZ4.out z h
                    · exact ⟨jj, List.mem_singleton.1 h, hjk⟩
                  case measure => simp [intOf]; omega
                · obtain rfl : j = mm - i := by omega
                  have HR4 : Hid (NumM k k w.heap.size wr ∧ NearT (w.heap.size + 1) k E (q * 2401) (fun b => Si ≤ b) wr ∧ Below w.heap.size w wr) := ⟨hn, ht, hB⟩
                  have HZL : Hid (zt.length ≤ 7 * i + (mm - i)) := hzl
                  clear hn ht hB hzl hzs hown
                  go_wp2_with fail
                  go_roundw
                  case rel => exact ⟨i + 1, zt, by omega, by go_num, hown4, HZ4.out, by have := HZL.out; omega, HR4.out.1, HR4.out.2.1, HR4.out.2.2, hS4⟩
                  case measure => simp [intOf]; omega
            · obtain rfl : i = mm := by omega
              obtain ⟨a4, c4, rfl⟩ := own_form hown
              obtain ⟨S5, hS5⟩ : ∃ S5, wr.heap.size = S5 := ⟨_, rfl⟩
              have HI : Hid (IntsIn (fun b => Si ≤ b ∧ b < S5) wr (.slice a4 zs.length c4) zs) := slice_of_owns hown (fun b hb hv => ⟨hb, by have := (hown.lt b hv).2; omega⟩)
              have HZ5 : Hid (∀ z ∈ zs, ∃ j : Nat, z = (j : Int) ∧ j < k) := hzs
              have hz49 : zs.length ≤ 49 := by omega
              have HN5 : Hid (NumM k k w.heap.size wr) := hn
              have HT5 : Hid (NearT (w.heap.size + 1) k E (q * 2401) (fun b => Si ≤ b ∧ b < S5) wr) := ht.sets (fun b _ hb => hb.1)
              have HB5 : Hid (Below w.heap.size w wr) := hB
              obtain ⟨L5, hL5⟩ : ∃ L5, zs.length = L5 := ⟨_, rfl⟩
              have HL5 : Hid (zs.length = L5) := hL5
              rw [hL5] at HI hz49 ⊢
              have HS5 : Hid (S5 ≤ wr.heap.size) := Nat.le_of_eq hS5.symm
              clear hn ht hB hzs hzl hown hi hlt3 hmp hL5 hS5 HT HN HB HSi HCS g1'
              go_wp2_with fail
              go_loopw [75] (fun p W => ∃ t : Nat, t ≤ L5 ∧ p = .int .i64 t ∧ NumM k k w.heap.size W ∧ NearT (w.heap.size + 1) k E (q * 2401 + t * 49) (fun b => Si ≤ b ∧ b < S5) W ∧ IntsIn (fun b => Si ≤ b ∧ b < S5) W (.slice a4 L5 c4) zs ∧ Below w.heap.size w W ∧ S5 ≤ W.heap.size) (fun p _ => L5 - (intOf p).toNat)
              case atStart => exact ⟨0, by omega, rfl, HN5.out, by simpa using HT5.out, HI.out, HB5.out, HS5.out⟩
              case round =>
                obtain ⟨t, ht5, rfl, hn, ht, hi, hB, hSS⟩ := hrel
                by_cases hlt5 : t < L5
                · obtain ⟨aq, cq, e1, -, hci⟩ := hi.open_
                  obtain ⟨rfl, -, rfl⟩ : a4 = aq ∧ L5 = zs.length ∧ c4 = cq := by simpa using e1
                  have hzt : t < zs.length := by have := HL5.out; omega
                  obtain ⟨b4, o4, rfl, -, hb4, hci⟩ := hci (by omega)
                  have gz := hci t hzt
                  obtain ⟨jj, hjj, hjk⟩ := HZ5.out (zs[t]?.getD 0) (by rw [List.getElem?_eq_getElem hzt]; exact List.getElem_mem hzt)
                  rw [hjj] at gz
                  obtain ⟨ar, mr, cr, cs, f0, hor, hcl, hmr, hbg, hXo, hbo, hstep⟩ := ht.row (fun b hb => by omega) hjk
                  have HST : Hid (∀ (W' : World) (u' : Value) (news : List Value) (x : Nat), W'.ownsRow (w.heap.size + 1) 3 1 u' x (cs ++ news) → wr.grownBy W' (Value.slice ar mr cr).ownBlock → (u'.ownBlock = (Value.slice ar mr cr).ownBlock ∨ u'.ownBlock = some wr.heap.size) → NearT (w.heap.size + 1) k E (q * 2401 + t * 49 + news.length) (fun b => Si ≤ b ∧ b < S5) (W'.setCell ⟨E, jj, none⟩ u') ∧ (W'.cell? ⟨E, jj, none⟩ = some (.slice ar mr cr) ∧ W'.frozen? ⟨E, jj, none⟩ = false)) := hstep
                  have HXO : Hid (∀ b, (Si ≤ b ∧ b < S5) → (Value.slice ar mr cr).ownBlock ≠ some b ∧ b ≠ E) := hXo
                  have HBO : Hid (∀ b, (Value.slice ar mr cr).ownBlock = some b → w.heap.size + 1 ≤ b) := hbo
                  have HN6 : Hid (NumM k k w.heap.size wr) := hn
                  have HI6 : Hid (IntsIn (fun b => Si ≤ b ∧ b < S5) wr (.slice (some ⟨b4, o4, none⟩) L5 c4) zs) := hi
                  have HB6 : Hid (Below w.heap.size w wr) := hB
                  have hsz : w.heap.size + 1 ≤ wr.heap.size := by have := ht.lt; omega
                  have hmr2 : mr ≤ 2000000 := by
                    have : q * 2401 + t * 49 ≤ 600 * 2401 + 49 * 49 := by
                      have h1 : q * 2401 ≤ 600 * 2401 := Nat.mul_le_mul_right _ (by omega)
                      have h2 : t * 49 ≤ 49 * 49 := Nat.mul_le_mul_right _ (by omega)
                      omega
                    omega
                  have hzl5 : (zs.map (Value.int .i64)).length ≤ 49 := by rw [List.length_map]; have := HL5.out; omega
                  have hone : ∀ c ∈ zs.map (Value.int .i64), c.oneCell' = true := fun c hc => by obtain ⟨z, _, rfl⟩ := List.mem_map.1 hc; rfl
                  obtain ⟨ns, hns⟩ : ∃ ns, zs.map (Value.int .i64) = ns := ⟨_, rfl⟩
                  have hsl : SliceIn (fun b => Si ≤ b ∧ b < S5) wr (.slice (some ⟨b4, o4, none⟩) L5 c4) ns := by rw [← hns]; exact hi
                  rw [hns] at hzl5 hone
                  clear hn ht hi hB e1 hci hjj hcl hXo hbo hstep hzt hns
                  go_wp2_with (first
                    | (at_builtin; refine wpList_append_slice rfl (.tmp 84) (.tmp 85) 23 rfl (w.heap.size + 1) 3 j0 (.int .i64 0) 8 Tryz.underlying23 hj0 hy0 hy1 hy2 rfl _ _ _ rfl hor _ ns rfl hsl hone (by omega) (by unfold maxLen; omega) (by omega) ?_; intro v3 w4 hown3 hg3 hl3; obtain ⟨a5, c5, rfl⟩ := own_form hown3; obtain ⟨hT6, f1, f2⟩ := HST.out w4 _ ns _ hown3 hg3 hl3)
                    | go_in)
                  (try go_frame)
                  go_roundw
                  case rel =>
                    have hg4 : wr.grownBy w4 (Value.slice ar mr cr).ownBlock := hg3
                    have hkk : ∀ b, b < wr.heap.size → (Si ≤ b ∧ b < S5) → (w4.setCell ⟨E, jj, none⟩ (.slice a5 (mr + ns.length) c5)).heap[b]? = wr.heap[b]? := fun b hb hS => (Below.heap_setCell _ _ _ b (fun e => (HXO.out b hS).2 e)).trans (hg4.block b hb (fun e => (HXO.out b hS).1 e.symm))
                    have hmb : ∀ b, (Value.slice ar mr cr).ownBlock = some b → w.heap.size ≤ b := fun b hb => by have := HBO.out b hb; omega
                    refine ⟨t + 1, by omega, by go_num, (HN6.out.kept hg4 (fun e => by have := HBO.out _ e.symm; omega)).setCell (by show w.heap.size ≠ E; omega) _, hT6.more (by rw [Nat.succ_mul]; omega), HI6.out.keep hkk, (HB6.out.grown hg4 HB6.out.size hmb).setCell (by show w.heap.size ≤ E; omega) _, by have := hg4.size; simp; omega⟩
                  case measure => simp [intOf]; omega
                · obtain rfl : t = L5 := by omega
                  have HR5 : Hid (NumM k k w.heap.size wr ∧ NearT (w.heap.size + 1) k E ((q + 1) * 2401) (fun _ => False) wr ∧ Below w.heap.size w wr) := ⟨hn, (ht.sets (fun b _ h => h.elim)).more (by rw [Nat.succ_mul]; omega), hB⟩
                  clear hn ht hB hi
                  go_wp2_with fail
                  go_roundw
                  case rel => exact ⟨q + 1, by omega, by go_num, HR5.out⟩
                  case measure => simp [intOf]; omega
        · obtain rfl : q = m := by omega
          have HB : Hid (Below w.heap.size w wr) := hB
          clear hB hn ht HL
          go_wp2_with fail
          go_ret
          exact ⟨_, _, _, rfl, HB.out⟩

end Go.Proofs.YtmndhclmhjmbpaaGreatDoor
