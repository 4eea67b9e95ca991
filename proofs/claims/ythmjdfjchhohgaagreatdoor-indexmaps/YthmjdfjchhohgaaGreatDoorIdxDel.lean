/- What evenness answers. What signOfOrder answers. What the reference's LefschetzOf answers. What mapping.sign answers of a face that is asked for itself: 0, if it is not taken onto itself. What slices.IndexFunc and slices.DeleteFunc answer of faces, in a row of one's own, of whose kept ones a function tells. -/
import Derived.Test.YthmjdfjchhohgaaGreatDoorIdxRowBox
import Derived.Test.YthmjdfjchhohgaaGreatDoorIdxInv
import Derived.Test.YthmjdfjchhohgaaGreatDoorIdxHas
import Derived.Test.YthmjdfjchhohgaaGreatDoorIndexOf
import Derived.Test.YthmjdfjchhohgaaGreatDoorIdxImages
import Derived.Test.YthmjdfjchhohgaaGreatDoorIdxImage
import Derived.Test.YthmjdfjchhohgaaGreatDoorGather
import Derived.Lib.SliceRun
import Derived.Lib.LazyBuf
namespace Go.Proofs.YthmjdfjchhohgaaGreatDoor
open Go.RowKit Go.Sort

set_option maxRecDepth 100000 in
theorem evenness_ (n : Nat) (hn : 1 ≤ n) (hn2 : n ≤ 1000) (w : World) :
    Calls Tryz.prog 46 #[.int .i64 ((n : Int) - 1)] w fun e w' => e = .returned (.int .i64 (if n % 2 = 1 then 1 else -1)) ∧ w' = w := by
  obtain ⟨m, rfl⟩ : ∃ m, n = m + 1 := ⟨n - 1, by omega⟩
  have e1 : ((m + 1 : Nat) : Int) - 1 = (m : Int) := by omega
  rw [e1]
  have h2 : (m : Int).tmod 2 = ((m % 2 : Nat) : Int) := by rw [Int.tmod_eq_emod_of_nonneg (by omega)]; rfl
  rcases (show m % 2 = 0 ∨ m % 2 = 1 by omega) with h | h
  · have h3 : (m + 1) % 2 = 1 := by omega
    rw [h] at h2
    rw [if_pos h3]
    clear h3 h
    go_enter Tryz.func46, Tryz.ntmps46
    go_wp2
    go_ret
    exact ⟨rfl, rfl⟩
  · have h3 : ¬ (m + 1) % 2 = 1 := by omega
    rw [h] at h2
    rw [if_neg h3]
    clear h3 h
    go_enter Tryz.func46, Tryz.ntmps46
    go_wp2
    go_ret
    exact ⟨rfl, rfl⟩


end Go.Proofs.YthmjdfjchhohgaaGreatDoor

namespace Go.Proofs.YthmjdfjchhohgaaGreatDoor
open Go.RowKit Go.Sort Go.Lib

set_option maxRecDepth 100000 in
set_option maxHeartbeats 2000000 in
theorem sign_order (v : Value) (l : List Int) (w : World) (h : Ints w v l) (hl : l.length ≤ 7) :
    Calls Tryz.prog 75 #[v] w fun e w' => e = .returned (.int .i64 (signN (invN l))) ∧ Below w.heap.size w w' := by
  have h0 := h
  obtain ⟨a, c, rfl, hcap, -⟩ := h.open_
  have hic := ints_cells h0
  obtain ⟨n, hn⟩ : ∃ n, l.length = n := ⟨_, rfl⟩
  have HN : Hid (l.length = n) := hn
  rw [hn] at hic hl hcap ⊢
  have HIC := Hid.mk' hic
  have hcn := hcap.1
  clear h h0 hic hn hcap
  go_enter Tryz.func75, Tryz.ntmps75
  go_wp2_with fail
  go_loopw [3, 9] (fun v p W => ∃ k : Nat, k ≤ n ∧ p = .int .i64 k ∧ v = .int .i64 (invTo l k) ∧ W = w) (fun _ p _ => n - (intOf p).toNat)
  case atStart => exact ⟨0, by omega, rfl, rfl, rfl⟩
  case round =>
    obtain ⟨k, hk, rfl, rfl, hW⟩ := hrel
    obtain rfl : w = wr := hW.symm
    clear hW
    by_cases hlt : k < n
    · obtain ⟨b, o, rfl, hb, g1⟩ := HIC.out k hlt
      have hik : invTo l k ≤ 49 := by
        have h1 := invTo_small l k
        have h2 : k * l.length ≤ 7 * 7 := Nat.mul_le_mul (by omega) (by rw [HN.out]; omega)
        omega
      have HIK := Hid.mk' hik
      by_cases hkn : k + 1 < n
      · obtain ⟨x, hx⟩ : ∃ x, l[k]?.getD 0 = x := ⟨_, rfl⟩
        rw [hx] at g1
        have HX := Hid.mk' hx
        clear hx hik
        go_wp2_with fail
        go_loopw [3, 17] (fun v p W => ∃ j : Nat, k + 1 + j ≤ n ∧ p = .int .i64 j ∧ v = .int .i64 ((invTo l k + invIn l k j : Nat) : Int) ∧ W = w) (fun _ p _ => n - (k + 1) - (intOf p).toNat)
        case atStart => exact ⟨0, by omega, rfl, by rw [invIn_zero]; rfl, rfl⟩
        case round =>
          obtain ⟨j, hj, rfl, rfl, hW⟩ := hrel
          obtain rfl : w = wr := hW.symm
          clear hW
          by_cases hjl : k + 1 + j < n
          · obtain ⟨b2, o2, e2, -, g2⟩ := HIC.out (k + 1 + j) hjl
            obtain ⟨rfl, rfl⟩ : b = b2 ∧ o = o2 := by simpa using e2
            rw [← Nat.add_assoc o (k + 1) j] at g2
            have hst := invIn_succ l k j (by rw [HN.out]; exact hjl)
            have hjs := invIn_small l k j
            rw [HX.out] at hst
            obtain ⟨y, hy⟩ : ∃ y, l[k + 1 + j]?.getD 0 = y := ⟨_, rfl⟩
            rw [hy] at g2 hst
            obtain ⟨t, ht⟩ : ∃ t, invTo l k + invIn l k j = t := ⟨_, rfl⟩
            have hti : t ≤ 100 := by have := HIK.out; omega
            have HT := Hid.mk' ht
            have HST := Hid.mk' hst
            rw [ht]
            have hj2 : j < n - (k + 1) := by omega
            clear e2 hst hy ht hjs
            by_cases hc : y < x
            · have hd : decide (y < x) = true := decide_eq_true hc
              go_wp2_with fail
              go_roundw
              case rel => exact ⟨j + 1, by omega, by go_num, by
                rw [HST.out, if_pos hc, ← Nat.add_assoc, HT.out]; go_num, by first | trivial | rfl⟩
              case measure => first | (simp [intOf]; done) | (simp [intOf]; omega)
            · have hd : decide (y < x) = false := decide_eq_false hc
              go_wp2_with fail
              go_roundw
              case rel => exact ⟨j + 1, by omega, by go_num, by
                rw [HST.out, if_neg hc, Nat.add_zero, HT.out], by first | trivial | rfl⟩
              case measure => first | (simp [intOf]; done) | (simp [intOf]; omega)
          · obtain rfl : n = k + 1 + j := by omega
            have hall := invIn_all l k j HN.out
            rw [hall]
            have hj2 : k + 1 + j - (k + 1) = j := by omega
            clear hall
            go_wp2_with fail
            go_roundw
            case rel => exact ⟨k + 1, by omega, by go_num, rfl, by first | trivial | rfl⟩
            case measure => first | (simp [intOf]; done) | (simp [intOf]; omega)
      · obtain rfl : n = k + 1 := by omega
        have hall := invIn_all l k 0 (by rw [HN.out])
        rw [invIn_zero, Nat.add_zero] at hall
        have HALL := Hid.mk' hall
        clear hall hik
        by_cases hcc : c = k + 1
        · subst hcc
          go_wp2_with fail
          go_loopw [3, 17] (fun v p W => ∃ j : Nat, j = 0 ∧ p = .int .i64 j ∧ v = .int .i64 ((invTo l k + invIn l k j : Nat) : Int) ∧ W = w) (fun _ p _ => 0 - (intOf p).toNat)
          case atStart => exact ⟨0, rfl, rfl, by rw [invIn_zero]; rfl, rfl⟩
          case round =>
            obtain ⟨j, rfl, rfl, rfl, hW⟩ := hrel
            obtain rfl : w = wr := hW.symm
            clear hW
            rw [invIn_zero, Nat.add_zero, HALL.out]
            go_wp2_with fail
            go_roundw
            case rel => exact ⟨k + 1, by omega, by go_num, rfl, by first | trivial | rfl⟩
            case measure => first | (simp [intOf]; done) | (simp [intOf]; omega)
        · have hcl : k + 1 < c := by omega
          go_wp2_with fail
          go_loopw [3, 17] (fun v p W => ∃ j : Nat, j = 0 ∧ p = .int .i64 j ∧ v = .int .i64 ((invTo l k + invIn l k j : Nat) : Int) ∧ W = w) (fun _ p _ => 0 - (intOf p).toNat)
          case atStart => exact ⟨0, rfl, rfl, by rw [invIn_zero]; rfl, rfl⟩
          case round =>
            obtain ⟨j, rfl, rfl, rfl, hW⟩ := hrel
            obtain rfl : w = wr := hW.symm
            clear hW
            rw [invIn_zero, Nat.add_zero, HALL.out]
            go_wp2_with fail
            go_roundw
            case rel => exact ⟨k + 1, by omega, by go_num, rfl, by first | trivial | rfl⟩
            case measure => first | (simp [intOf]; done) | (simp [intOf]; omega)
    · obtain rfl : k = n := by omega
      have hall : invTo l k = invN l := by rw [← HN.out]; exact invTo_all l
      have hsm : invN l ≤ 49 := by
        have h1 := invTo_small l k
        rw [HN.out] at h1
        have h2 : k * k ≤ 7 * 7 := Nat.mul_le_mul hl hl
        omega
      rw [hall]
      have hev := evenness_ (invN l + 1) (by omega) (by omega) w
      rw [show ((invN l + 1 : Nat) : Int) - 1 = (invN l : Int) by omega] at hev
      have HS : Hid ((if (invN l + 1) % 2 = 1 then (1 : Int) else -1) = signN (invN l)) := by
        show _ = _
        unfold signN
        by_cases e : invN l % 2 = 0
        · rw [if_pos e, if_pos (by omega)]
        · rw [if_neg e, if_neg (by omega)]
      rw [HS.out] at hev
      clear hall hsm
      go_wp2_with fail
      refine hev.mono ?_
      clear hev
      rintro e W ⟨rfl, rfl⟩
      go_wp2_with fail
      go_ret
      exact ⟨rfl, Below.refl _ _⟩

end Go.Proofs.YthmjdfjchhohgaaGreatDoor

namespace Go.Proofs.YthmjdfjchhohgaaGreatDoor
open Go.RowKit Go.Sort Go.Lib

/-- What a fixed face counts. -/
def lefF (ht : Int → Int) (x : List Int) : Int := if x.length % 2 = 0 then - signN (invN (x.map ht)) else signN (invN (x.map ht))
def lefL (ht : Int → Int) (L : List (List Int)) : Int := (L.map (lefF ht)).sum
theorem lefL_succ (ht : Int → Int) {L : List (List Int)} {k : Nat} (hk : k < L.length) : lefL ht (L.take (k + 1)) = lefL ht (L.take k) + lefF ht (L[k]?.getD []) := by
  unfold lefL
  rw [List.take_add_one, List.getElem?_eq_getElem hk, List.map_append, List.sum_append, Option.getD_some]
  simp only [Option.toList, List.map_cons, List.map_nil, List.sum_cons, List.sum_nil, Int.add_zero]
theorem signN_or (n : Nat) : signN n = 1 ∨ signN n = -1 := by
  unfold signN
  by_cases h : n % 2 = 0
  · rw [if_pos h]; exact .inl rfl
  · rw [if_neg h]; exact .inr rfl
theorem lefF_or (ht : Int → Int) (x : List Int) : lefF ht x = 1 ∨ lefF ht x = -1 := by
  unfold lefF
  rcases signN_or (invN (x.map ht)) with h | h <;> rw [h] <;> by_cases e : x.length % 2 = 0 <;> simp [e]
theorem lefL_small (ht : Int → Int) : ∀ L : List (List Int), -(L.length : Int) ≤ lefL ht L ∧ lefL ht L ≤ L.length
  | [] => by simp [lefL]
  | x :: L => by
    have h1 := lefL_small ht L
    have h2 := lefF_or ht x
    have h3 : lefL ht (x :: L) = lefF ht x + lefL ht L := by unfold lefL; rw [List.map_cons, List.sum_cons]
    rw [h3, List.length_cons]
    omega

set_option maxRecDepth 100000 in
set_option maxHeartbeats 4000000 in
theorem lefschetz_of {ht : Int → Int} {L : List (List Int)} (va vf : Value) (w : World) (hLl : L.length ≤ 600) (hL7 : ∀ x ∈ L, x.length ≤ 7 ∧ x ≠ [])
    (hfi : Calls Tryz.prog 23 #[va, vf] w fun e w' => ∃ v, e = .returned v ∧ Rows w' v L ∧ Below w.heap.size w w')
    (him : ∀ W vx x, Below w.heap.size w W → x ∈ L → Ints W vx x → Calls Tryz.prog 44 #[va, vf, vx] W fun e w' => ∃ v, e = .returned v ∧ Ints w' v (x.map ht) ∧ Below W.heap.size W w') :
    Calls Tryz.prog 24 #[va, vf] w fun e w' => e = .returned (.int .i64 (lefL ht L)) ∧ Below w.heap.size w w' := by
  obtain ⟨n, hn⟩ : ∃ n, L.length = n := ⟨_, rfl⟩
  have HN : Hid (L.length = n) := hn
  have HFI : Hid (Calls Tryz.prog 23 #[va, vf] w fun e w' => ∃ a c, e = .returned (.slice a n c) ∧ Rows w' (.slice a L.length c) L ∧ Below w.heap.size w w') := hfi.mono fun e w' ⟨v, h1, h2, h3⟩ => by
    have h4 := h2
    obtain ⟨a, c, rfl, -, -⟩ := h2.open_
    rw [hn] at h1
    exact ⟨a, c, h1, h4, h3⟩
  have HL7 := Hid.mk' hL7
  have HIM := Hid.mk' him
  have HSM : Hid (∀ k, -600 ≤ lefL ht (L.take k) ∧ lefL ht (L.take k) ≤ 600) := fun k => by
    have h1 := lefL_small ht (L.take k)
    have h2 : (L.take k).length ≤ 600 := by rw [List.length_take]; omega
    omega
  rw [hn] at hLl
  clear hfi him hL7 hn
  go_enter Tryz.func24, Tryz.ntmps24
  go_wp2_with fail
  refine HFI.out.mono ?_
  rintro e V1 ⟨aL, cL, rfl, hr, hB⟩
  have HB : Hid (Below w.heap.size w V1) := hB
  obtain ⟨a1, c1, e1, -, hrc⟩ := hr.open_
  obtain ⟨rfl, rfl⟩ : aL = a1 ∧ cL = c1 := by simpa using e1
  rw [HN.out] at hrc
  have HRC := Hid.mk' hrc
  clear hB hr e1 hrc HFI
  go_wp2_with fail
  go_loopw [6, 7] (fun v p W => ∃ m : Nat, m ≤ n ∧ p = .int .i64 m ∧ v = .int .i64 (lefL ht (L.take m)) ∧ Hid (Below V1.heap.size V1 W)) (fun _ p _ => n - (intOf p).toNat)
  case atStart => exact ⟨0, by omega, rfl, by simp [lefL], Below.refl _ _⟩
  case round =>
    obtain ⟨m, hm, rfl, rfl, HI⟩ := hrel
    by_cases hml : m < n
    · obtain ⟨b, o, rfl, -, hb, crow⟩ := HRC.out (by omega)
      obtain ⟨a2, p2, f0, i2⟩ := crow m hml
      have hst := lefL_succ ht (L := L) (k := m) (by rw [HN.out]; exact hml)
      have hxm : L[m]?.getD [] ∈ L := by rw [List.getElem?_eq_getElem (by rw [HN.out]; exact hml)]; exact List.getElem_mem _
      obtain ⟨x, hxe⟩ : ∃ x, L[m]?.getD [] = x := ⟨_, rfl⟩
      rw [hxe] at f0 i2 hst hxm
      have hx7 := (HL7.out x hxm).1
      have hx0 := (HL7.out x hxm).2
      have hBW : Below w.heap.size w wr := HB.out.trans (HI.out.mono HB.out.size)
      have hI := HIM.out wr (.slice a2 x.length p2) x hBW hxm (i2.below HI.out)
      have HF0 : Hid (V1.cell? ⟨b, o + m, none⟩ = some (.slice a2 x.length p2) ∧ b < V1.heap.size) := ⟨f0, hb⟩
      have HX0 : Hid (x ≠ [] ∧ x.length ≤ 7) := ⟨hx0, hx7⟩
      have hs1 := HSM.out m
      have hs2 := HSM.out (m + 1)
      rw [hst] at hs2
      obtain ⟨z, hz⟩ : ∃ z, lefL ht (L.take m) = z := ⟨_, rfl⟩
      rw [hz] at hst hs1 hs2 ⊢
      have HST := Hid.mk' hst
      have HS12 := Hid.mk' (And.intro hs1 hs2)
      have f1 := (HI.out.cell (p := ⟨b, o + m, none⟩) hb).trans f0
      obtain ⟨xl, hxl⟩ : ∃ xl, x.length = xl := ⟨_, rfl⟩
      have HXL : Hid (x.length = xl) := hxl
      rw [hxl] at f1 hI hx7
      clear crow hxm hxe i2 hBW f0 hx0 hst hs1 hs2 hz hxl
      go_wp2_with fail
      refine hI.mono ?_
      clear hI
      rintro e V2 ⟨v2, rfl, hi, hV⟩
      have HB2 : Hid (Below V1.heap.size V1 V2) := HI.out.trans (hV.mono HI.out.size)
      have htu := turns_ v2 (x.map ht) V2 hi (by rw [List.length_map]; exact HX0.out.2) (by simpa using HX0.out.1)
      obtain ⟨s, hs⟩ : ∃ s, signN (invN (x.map ht)) = s := ⟨_, rfl⟩
      have hso := signN_or (invN (x.map ht))
      have hlf : lefF ht x = if xl % 2 = 0 then -s else s := by unfold lefF; rw [hs, HXL.out]
      rw [hs] at htu hso
      have h12 := HS12.out
      rw [hlf] at h12
      have HLF := Hid.mk' hlf
      have hs3 : -1 ≤ s := by omega
      have hs4 : s ≤ 1 := by omega
      clear hV hi hs hlf hso f1
      go_wp2_with fail
      refine htu.mono ?_
      clear htu
      rintro e V3 ⟨rfl, hV⟩
      have HB3 : Hid (Below V1.heap.size V1 V3) := HB2.out.trans (hV.mono HB2.out.size)
      have f1 := (HB3.out.cell (p := ⟨b, o + m, none⟩) HF0.out.2).trans HF0.out.1
      rw [HXL.out] at f1
      have h2 : (xl : Int).tmod 2 = ((xl % 2 : Nat) : Int) := by rw [Int.tmod_eq_emod_of_nonneg (by omega)]; rfl
      clear hV
      by_cases hp : xl % 2 = 0
      · rw [hp] at h2
        rw [if_pos hp] at h12
        have HPP := Hid.mk' hp
        have t1 := h12.1.1
        have t2 := h12.1.2
        have t3 := h12.2.1
        have t4 := h12.2.2
        clear h12 hp
        go_wp2_with fail
        go_roundw
        case rel => exact ⟨m + 1, by omega, by go_num, by rw [HST.out, HLF.out, if_pos HPP.out], HB3⟩
        case measure => simp [intOf]; omega
      · have h3 : xl % 2 = 1 := by omega
        rw [h3] at h2
        rw [if_neg hp] at h12
        have HPP := Hid.mk' hp
        have t1 := h12.1.1
        have t2 := h12.1.2
        have t3 := h12.2.1
        have t4 := h12.2.2
        clear h12 hp h3
        go_wp2_with fail
        go_roundw
        case rel => exact ⟨m + 1, by omega, by go_num, by rw [HST.out, HLF.out, if_neg HPP.out], HB3⟩
        case measure => simp [intOf]; omega
    · obtain rfl : m = n := by omega
      have h2 : L.take m = L := by rw [← HN.out, List.take_length]
      rw [h2]
      have HB9 : Hid (Below w.heap.size w wr) := HB.out.trans (HI.out.mono HB.out.size)
      clear h2
      go_wp2_with fail
      go_ret
      exact ⟨rfl, HB9.out⟩

end Go.Proofs.YthmjdfjchhohgaaGreatDoor

namespace Go.Proofs.YthmjdfjchhohgaaGreatDoor
open Go.RowKit Go.Sort Go.Lib

/-- The sign of a face that is taken onto itself; 0 of another one. -/
def sgnF (ht : Int → Int) (x : List Int) : Int := if fixB ht x = true then signN (invN (x.map ht)) else 0
theorem sgnF_zero (ht : Int → Int) (x : List Int) : sgnF ht x = 0 ↔ fixB ht x = false := by
  unfold sgnF
  cases h : fixB ht x
  · simp
  · simp only [if_true]
    rcases signN_or (invN (x.map ht)) with e | e <;> rw [e] <;> simp
theorem fix_out {ht : Int → Int} {x out : List Int} (hx : Rising x) (ho : Rising out) (hm : ∀ u, u ∈ out ↔ u ∈ x.map ht) : (out == x) = fixB ht x := by
  rw [Bool.eq_iff_iff, beq_iff_eq, fixB_iff]
  constructor
  · intro e u; have := hm u; rwa [e] at this
  · intro h; exact rising_one ho hx fun u => (hm u).trans (h u).symm

theorem below_drewN (w : World) (n : Nat) : Below w.heap.size w (w.drewN n) := ⟨rfl, rfl, rfl, Nat.le_refl _, fun _ _ => rfl⟩

set_option maxRecDepth 100000 in
set_option maxHeartbeats 1000000 in
theorem sign_fix (vF : Value) (F : Nat → Int) (vx : Value) (x : List Int) (w : World) (hx : Ints w vx x) (hxl : x.length ≤ 7) (hx0 : x ≠ []) (hv : ∀ v ∈ x, 0 ≤ v ∧ v ≤ 99) (hr : Rising x) :
    Calls Tryz.prog 47 #[.agg (mapC vF F).toArray, vx, vx] w fun e w' => e = .returned (.int .i64 (sgnF (fun v => F v.toNat) x)) ∧ Below w.heap.size w w' := by
  have hmg : MapgAt w.heap.size (w.alloc (.cells (mapC vF F).toArray 83)) vF F := (Go.MapKept.heap_alloc w _).1
  have hB0 : Below w.heap.size w (w.alloc (.cells (mapC vF F).toArray 83)) := (Below.refl _ w).alloc (Nat.le_refl _) _
  have HLD : Hid (∀ W, Below (w.alloc (.cells (mapC vF F).toArray 83)).heap.size (w.alloc (.cells (mapC vF F).toArray 83)) W → (Instr.loadAt 83 (.pointer (some ⟨w.heap.size, 0, none⟩))).run Tryz.prog W = .ok (.agg (mapC vF F).toArray) W) := fun W hB => by
    simp only [Instr.loadAt, Instr.sureAddr, Sem.run_bind, Sem.run_pure, Result.andThen_ok]
    exact (hmg.below hB).load
  obtain ⟨w1, hw1⟩ : ∃ w1, w.alloc (.cells (mapC vF F).toArray 83) = w1 := ⟨_, rfl⟩
  rw [hw1] at HLD hB0
  have HSE : Hid (Calls Tryz.prog 74 #[.agg (mapC vF F).toArray, vx] w1 fun e w' => ∃ v out, e = .returned v ∧ Ints w' v out ∧ Rising out ∧ (∀ u, u ∈ out ↔ u ∈ x.map fun v => F v.toNat) ∧ Below w1.heap.size w1 w') := (set_ vF F vx x w1 (hx.below hB0) hxl hx0 hv).mono fun e w' ⟨v, out, h1, h2, h3, h4, h5⟩ => ⟨v, out, h1, h2.mono (fun _ _ _ => trivial), h3, h4, h5⟩
  have HIM : Hid (∀ W, Below w1.heap.size w1 W → Calls Tryz.prog 76 #[.agg (mapC vF F).toArray, vx] W fun e w' => ∃ v, e = .returned v ∧ Ints w' v (x.map fun v => F v.toNat) ∧ Below W.heap.size W w') := fun W hB => (images_ vF F vx x W ((hx.below hB0).below hB) hxl hv).mono fun e w' ⟨g, h1, h2, h3⟩ => ⟨_, h1, by
    have := ints_holds (S := anyBlock) (w := w') (g := g) (cap := x.length) (zs := x.map fun v => F v.toNat) (l := []) (by rw [List.append_nil]; exact h2.holds) trivial (by simp)
    rwa [List.length_map] at this, h3⟩
  obtain ⟨ht, hht⟩ : ∃ ht : Int → Int, (fun v : Int => F v.toNat) = ht := ⟨_, rfl⟩
  rw [hht] at HSE HIM ⊢
  have HSO : Hid (∀ W v, Ints W v (x.map ht) → Calls Tryz.prog 75 #[v] W fun e w' => e = .returned (.int .i64 (signN (invN (x.map ht)))) ∧ Below W.heap.size W w') := fun W v h => sign_order v (x.map ht) W h (by simpa using hxl)
  have HXX : Hid (Rising x ∧ x ≠ [] ∧ x.length ≤ 7) := ⟨hr, hx0, hxl⟩
  have HB0 := Hid.mk' hB0
  obtain ⟨P, hP⟩ : ∃ P, (mapC vF F).toArray = P := ⟨_, rfl⟩
  rw [hP] at HLD HSE HIM hw1 ⊢
  have HX : Hid (Ints w1 vx x) := hx.below hB0
  obtain ⟨R, hR⟩ : ∃ R, sgnF ht x = R := ⟨_, rfl⟩
  have HR := Hid.mk' hR
  rw [hR]
  clear hx hxl hx0 hv hr hmg hB0 hht hP hR
  go_enter Tryz.func47, Tryz.ntmps47
  go_wp2_with fail
  refine wp_load_at rfl rfl (HLD.out _ (Below.refl _ _)) ?_
  go_wp2_with fail
  refine HSE.out.mono ?_
  rintro e V1 ⟨v, out, rfl, ho, hor, hom, hB1⟩
  have HF := Hid.mk' (fix_out HXX.out.1 hor hom)
  have hpos : 0 < out.length := by
    obtain ⟨y, hy⟩ := List.exists_mem_of_ne_nil x HXX.out.2.1
    exact List.length_pos_iff.2 (List.ne_nil_of_mem ((hom (ht y)).2 (List.mem_map_of_mem hy)))
  have hpx : 0 < x.length := List.length_pos_iff.2 HXX.out.2.1
  have HX1 := HX.out.below hB1
  obtain ⟨a1, c1, rfl, -, h1⟩ := ho.open_
  obtain ⟨a2, c2, rfl, -, h2⟩ := HX1.open_
  obtain ⟨b1, o1, rfl, -, -, g1⟩ := h1 hpos
  obtain ⟨b2, o2, rfl, -, -, g2⟩ := h2 hpx
  have hol : out.length ≤ x.length := by
    have := nodup_le (rising_nodup hor) (Y := x.map ht) fun u hu => (hom u).1 hu
    simpa using this
  have hx7 := HXX.out.2.2
  have heq := Tryz.slices_Equal_int b1 o1 out.length c1 b2 o2 x.length c2 out x V1 (Nat.le_refl _) (Nat.le_refl _) (by omega) (by omega) (fun j hj => by rw [List.getD_eq_getElem?_getD]; exact g1 j hj) (fun j hj => by rw [List.getD_eq_getElem?_getD]; exact g2 j hj)
  rw [List.take_length, List.take_length, HF.out] at heq
  have HB1 := Hid.mk' hB1
  clear g1 g2 h1 h2 ho hor hom HX1
  go_wp2_with fail
  refine heq.mono ?_
  clear heq
  rintro e V2 ⟨rfl, q, rfl⟩
  obtain ⟨V2, hV2⟩ : ∃ V2, V1.drewN q = V2 := ⟨_, rfl⟩
  have hB2 := below_drewN V1 q
  rw [hV2] at hB2 ⊢
  have HB2 : Hid (Below w1.heap.size w1 V2) := HB1.out.trans (hB2.mono HB1.out.size)
  clear hV2 hB2 HB1
  cases hfx : fixB ht x
  · have HE : Hid (R = 0) := by show _ = _; rw [← HR.out]; unfold sgnF; rw [hfx]; rfl
    clear hfx
    go_wp2_with fail
    go_ret
    exact ⟨by rw [HE.out]; rfl, HB0.out.trans (HB2.out.mono HB0.out.size)⟩
  · have HE : Hid (R = signN (invN (x.map ht))) := by show _ = _; rw [← HR.out]; unfold sgnF; rw [hfx]; rfl
    clear hfx
    go_wp2_with fail
    refine wp_load_at rfl rfl (HLD.out _ HB2.out) ?_
    go_wp2_with fail
    refine (HIM.out _ HB2.out).mono ?_
    rintro e V3 ⟨v, rfl, hi, hB3⟩
    have HB3 : Hid (Below w1.heap.size w1 V3) := HB2.out.trans (hB3.mono HB2.out.size)
    have hso := HSO.out V3 v hi
    clear hi hB3
    go_wp2_with fail
    refine hso.mono ?_
    clear hso
    rintro e V4 ⟨rfl, hB4⟩
    have HB4 : Hid (Below w1.heap.size w1 V4) := HB3.out.trans (hB4.mono HB3.out.size)
    clear hB4
    go_wp2_with fail
    go_ret
    exact ⟨by rw [HE.out]; rfl, HB0.out.trans (HB4.out.mono HB0.out.size)⟩

end Go.Proofs.YthmjdfjchhohgaaGreatDoor

namespace Go.Proofs.YthmjdfjchhohgaaGreatDoor
open Go.RowKit Go.Sort

abbrev FaceH : Type := Value × List Int
/-- Which of the first j are kept. -/
def kpF (p : List Int → Bool) (Z : List FaceH) (j : Nat) : List FaceH := (Z.take j).filter fun z => p z.2
theorem kpF_succ {p : List Int → Bool} {Z : List FaceH} {j : Nat} (hj : j < Z.length) : kpF p Z (j + 1) = kpF p Z j ++ if p Z[j].2 = true then [Z[j]] else [] := by
  unfold kpF
  rw [List.take_add_one, List.getElem?_eq_getElem hj, List.filter_append]
  simp only [Option.toList_some, List.filter_cons, List.filter_nil]
theorem kpF_le (p : List Int → Bool) (Z : List FaceH) (j : Nat) : (kpF p Z j).length ≤ j := Nat.le_trans (List.length_filter_le _ _) (by rw [List.length_take]; omega)
theorem kpF_all {p : List Int → Bool} {Z : List FaceH} {j : Nat} (hj : Z.length ≤ j) : kpF p Z j = Z.filter fun z => p z.2 := by unfold kpF; rw [List.take_of_length_le hj]
theorem kpF_first {p : List Int → Bool} {Z : List FaceH} {j : Nat} (h : ∀ i (hi : i < Z.length), i < j → p Z[i].2 = true) : kpF p Z j = Z.take j := by
  unfold kpF
  refine List.filter_eq_self.2 fun z hz => ?_
  obtain ⟨i, hi, rfl⟩ := List.mem_take_iff_getElem.1 hz
  exact h i (by omega) (by omega)
theorem cells_low {b x : Nat} : ∀ (vs : List Value) (o : Nat) (w : World), x < o → (w.setCells b o vs).cell? ⟨b, x, none⟩ = w.cell? ⟨b, x, none⟩
  | [], _, _, _ => rfl
  | v :: vs, o, w, h => (cells_low vs (o + 1) (w.setCell ⟨b, o, none⟩ v) (by omega)).trans (World.cell?_setCell_other _ _ _ _ fun e => by cases e; omega)
theorem cells_heap {b k : Nat} (hk : k ≠ b) : ∀ (vs : List Value) (o : Nat) (w : World), (w.setCells b o vs).heap[k]? = w.heap[k]?
  | [], _, _ => rfl
  | v :: vs, o, w => (cells_heap hk vs (o + 1) (w.setCell ⟨b, o, none⟩ v)).trans (Below.heap_setCell _ _ _ k fun e => hk e)

/-- The faces whose heads are Z, and the mapping at mb, as they stand ahead of the row at G. -/
structure DelAt (G mb : Nat) (vF : Value) (F : Nat → Int) (Z : List FaceH) (W : World) : Prop where
  map : MapgAt mb W vF F
  rows : ∀ z ∈ Z, IntsIn (fun b => b ≠ G) W z.1 z.2
theorem DelAt.below {G mb : Nat} {vF : Value} {F : Nat → Int} {Z : List FaceH} {W W' : World} (h : DelAt G mb vF F Z W) (hB : Below W.heap.size W W') : DelAt G mb vF F Z W' :=
  ⟨h.map.below hB, fun z hz => (h.rows z hz).below hB⟩
theorem DelAt.set {G mb : Nat} {vF : Value} {F : Nat → Int} {Z : List FaceH} {W W' : World} (h : DelAt G mb vF F Z W) (hm : mb ≠ G) (hk : ∀ k, k ≠ G → W'.heap[k]? = W.heap[k]?) : DelAt G mb vF F Z W' :=
  ⟨(hk mb hm).trans h.map, fun z hz => SliceIn.keep (h.rows z hz) fun b _ hb => hk b hb⟩

def FirstGo (p : List Int → Bool) (Z : List FaceH) (i : Nat) : Prop := ∃ hi : i < Z.length, p Z[i].2 = false ∧ ∀ j (hj : j < Z.length), j < i → p Z[j].2 = true
def NoneGo (p : List Int → Bool) (Z : List FaceH) : Prop := ∀ j (hj : j < Z.length), p Z[j].2 = true
/-- What a function tells of a face: that it is to go. -/
def GoesF (mb G : Nat) (vF : Value) (F : Nat → Int) (p : List Int → Bool) (Z : List FaceH) : Prop :=
  ∀ (W : World) (z : FaceH), DelAt G mb vF F Z W → z ∈ Z → Calls Tryz.prog 49 #[z.1, .pointer (some ⟨mb, 0, none⟩)] W fun e w' => e = .returned (.bool (!p z.2)) ∧ Below W.heap.size W w'

set_option maxRecDepth 100000 in
set_option maxHeartbeats 1000000 in
theorem index_goes {G mb : Nat} {vF : Value} {F : Nat → Int} {p : List Int → Bool} {Z : List FaceH} (a : Option Addr) (c : Nat) (w : World) (hg : GoesF mb G vF F p Z) (hd : DelAt G mb vF F Z w) (hn : Z.length ≤ 1000)
    (hz : ∀ k (hk : k < Z.length), ∃ b o, a = some ⟨b, o, none⟩ ∧ b < w.heap.size ∧ w.cell? ⟨b, o + k, none⟩ = some Z[k].1) :
    Calls Tryz.prog 77 #[.slice a Z.length c, .func (.func 49) #[] #[.pointer (some ⟨mb, 0, none⟩)]] w fun e w' => Below w.heap.size w w' ∧
      ((∃ i : Nat, e = .returned (.int .i64 i) ∧ FirstGo p Z i) ∨ (e = .returned (.int .i64 (-1)) ∧ NoneGo p Z)) := by
  have HZ : Hid (∀ k (hk : k < Z.length), ∃ b o, a = some ⟨b, o, none⟩ ∧ b < w.heap.size ∧ w.cell? ⟨b, o + k, none⟩ = some Z[k].1) := hz
  have HG := Hid.mk' hg
  have HD := Hid.mk' hd
  obtain ⟨n, hne⟩ : ∃ n, Z.length = n := ⟨_, rfl⟩
  have HN : Hid (Z.length = n) := hne
  rw [hne] at hn ⊢
  clear hz hg hd hne
  go_enter Tryz.func77, Tryz.ntmps77
  go_wp2_with fail
  go_loopw [8] (fun q W => ∃ k : Nat, k ≤ n ∧ q = .int .i64 k ∧ Hid (Below w.heap.size w W ∧ ∀ j (hj : j < Z.length), j < k → p Z[j].2 = true)) (fun q _ => n - (intOf q).toNat)
  case atStart => exact ⟨0, by omega, rfl, Below.refl _ _, fun j _ h => by omega⟩
  case round =>
    obtain ⟨k, hk, rfl, HK⟩ := hrel
    by_cases hkn : k < n
    · obtain ⟨b, o, rfl, hb, c1⟩ := HZ.out k (by rw [HN.out]; exact hkn)
      have hkz : k < Z.length := by rw [HN.out]; exact hkn
      have c2 := (HK.out.1.cell (p := ⟨b, o + k, none⟩) hb).trans c1
      have hcall := HG.out wr Z[k] (HD.out.below HK.out.1) (List.getElem_mem _)
      have HPT : Hid (∀ t : Bool, p Z[k].2 = t → p Z[k].2 = t) := fun _ h => h
      obtain ⟨u, hu⟩ : ∃ u, Z[k].1 = u := ⟨_, rfl⟩
      rw [hu] at c2 hcall
      obtain ⟨t, ht⟩ : ∃ t, p Z[k].2 = t := ⟨_, rfl⟩
      rw [ht] at hcall
      have HT : Hid (p Z[k].2 = t) := ht
      clear c1 hu ht HPT
      go_wp2_with fail
      refine hcall.mono ?_
      clear hcall
      rintro e V ⟨rfl, hV⟩
      have HV : Hid (Below w.heap.size w V) := HK.out.1.trans (hV.mono HK.out.1.size)
      clear hV
      cases t
      · go_wp2_with fail
        go_ret
        exact ⟨HV.out, .inl ⟨k, rfl, hkz, HT.out, fun j hj h => HK.out.2 j hj h⟩⟩
      · go_wp2_with fail
        go_roundw
        case rel => exact ⟨k + 1, by omega, by go_num, HV.out, fun j hj h => by
          by_cases e : j = k
          · subst e; exact HT.out
          · exact HK.out.2 j hj (by omega)⟩
        case measure => simp [intOf]; omega
    · obtain rfl : k = n := by omega
      go_wp2_with fail
      go_ret
      exact ⟨HK.out.1, .inr ⟨rfl, fun j hj => HK.out.2 j hj (by rw [← HN.out]; exact hj)⟩⟩

end Go.Proofs.YthmjdfjchhohgaaGreatDoor
