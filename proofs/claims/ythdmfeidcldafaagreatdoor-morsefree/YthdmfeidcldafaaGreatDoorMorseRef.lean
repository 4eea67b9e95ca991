/- What the reference's greater and AllLeft answer. -/
import Derived.Test.YthdmfeidcldafaaGreatDoorMorseShape
import Derived.Test.YthdmfeidcldafaaGreatDoorRefB
import Derived.Deep.QuietTactic
import Derived.BigQuiet
namespace Go.Proofs.YthdmfeidcldafaaGreatDoor
open Go.RowKit Go.Sort

/-- Is a face a greater one that is left? -/
def grB (L : List (List Int)) (left : Nat → Bool) (i k : Nat) : Bool := decide (i < k) && (left k && (decide ((faceAt L i).length < (faceAt L k).length) && partB (faceAt L i) (faceAt L k)))
def grTo (L : List (List Int)) (left : Nat → Bool) (i k : Nat) : List Nat := (List.range k).filter (grB L left i)
theorem grTo_all (L : List (List Int)) (left : Nat → Bool) (i : Nat) : grTo L left i L.length = grL L left i := rfl
def lastI (l : List Nat) : Int := match l.getLast? with
  | some x => (x : Int)
  | none => -1
theorem grTo_start (L : List (List Int)) (left : Nat → Bool) (i : Nat) : grTo L left i (i + 1) = [] := List.filter_eq_nil_iff.2 fun k hk => by
  have := List.mem_range.1 hk
  unfold grB
  rw [decide_eq_false (by omega)]; simp
theorem grTo_yes {L : List (List Int)} {left : Nat → Bool} {i k : Nat} (h : grB L left i k = true) : grTo L left i (k + 1) = grTo L left i k ++ [k] := by unfold grTo; rw [List.range_succ, List.filter_append]; simp [h]
theorem grTo_no {L : List (List Int)} {left : Nat → Bool} {i k : Nat} (h : grB L left i k = false) : grTo L left i (k + 1) = grTo L left i k := by unfold grTo; rw [List.range_succ, List.filter_append]; simp [h]
theorem lastI_snoc (l : List Nat) (k : Nat) : lastI (l ++ [k]) = (k : Int) := by unfold lastI; simp
theorem grTo_len (L : List (List Int)) (left : Nat → Bool) (i k : Nat) : (grTo L left i k).length ≤ k := by refine Nat.le_trans (List.length_filter_le _ _) ?_; rw [List.length_range]; exact Nat.le_refl _

/-- A slice that reads as these marks. -/
def MarksAt (W : World) (gl n : Nat) (left : Nat → Bool) : Prop := ∀ i, i < n → W.cell? ⟨gl, i, none⟩ = some (.bool (left i))

set_option maxRecDepth 100000 in
set_option maxHeartbeats 4000000 in
theorem greater_ {L : List (List Int)} {left : Nat → Bool} (vL : Value) (gl cl i : Nat) (w : World) (hL : Rows w vL L) (hm : MarksAt w gl L.length left) (hi : i < L.length) (hL6 : L.length ≤ 1000) (hx : ∀ x ∈ L, x.length ≤ 1000) :
    Calls Tryz.prog 33 #[vL, .slice (some ⟨gl, 0, none⟩) L.length cl, .int .i64 (i : Int)] w fun e w' => e = .returned (.tuple #[.int .i64 (lastI (grL L left i)), .int .i64 ((grL L left i).length : Int)]) ∧ Below w.heap.size w w' := by
  have HL : Hid (Rows w vL L) := hL
  have HM : Hid (MarksAt w gl L.length left) := hm
  have HX : Hid (∀ x ∈ L, x.length ≤ 1000) := hx
  obtain ⟨aL, cL, rfl, -, hrows⟩ := hL.open_
  obtain ⟨bL, oL, rfl, -, hbl, hrw⟩ := hrows (by omega)
  obtain ⟨ai, pi, gi, ii⟩ := hrw i hi
  have hrw' : ∀ k, k < L.length → ∃ a' cap', w.cell? ⟨bL, oL + k, none⟩ = some (.slice a' (L[k]?.getD []).length cap') ∧ Ints w (.slice a' (L[k]?.getD []).length cap') (L[k]?.getD []) := hrw
  have HRW : Hid (∀ k, k < L.length → ∃ a' cap', w.cell? ⟨bL, oL + k, none⟩ = some (.slice a' (L[k]?.getD []).length cap') ∧ Ints w (.slice a' (L[k]?.getD []).length cap') (L[k]?.getD [])) := hrw'
  obtain ⟨fi, hfi⟩ : ∃ fi, L[i]?.getD [] = fi := ⟨_, rfl⟩
  have HFI : Hid (faceAt L i = fi) := hfi
  rw [hfi] at gi ii
  have hfl : fi.length ≤ 1000 := by rw [← hfi]; exact hx _ (faceAt_mem hi)
  have HII : Hid (Ints w (.slice ai fi.length pi) fi) := ii
  obtain ⟨n, hn⟩ : ∃ n, L.length = n := ⟨_, rfl⟩
  have HNN : Hid (L.length = n) := hn
  have HGA : Hid (∀ i, grTo L left i n = grL L left i) := fun i => by rw [← hn]; exact grTo_all L left i
  rw [hn] at hi hL6 ⊢
  clear hL hm hx hrows hrw hrw' hfi ii hn
  go_enter Tryz.func33, Tryz.ntmps33
  go_wp2_with fail
  go_loopw [8, 9, 10] (fun a b p W => ∃ k : Nat, (i + 1 ≤ k ∧ k ≤ n) ∧ p = .int .i64 k ∧ a = .int .i64 (lastI (grTo L left i k)) ∧ b = .int .i64 ((grTo L left i k).length : Int) ∧ Hid (Below w.heap.size w W)) (fun _ _ p _ => n - (intOf p).toNat)
  case atStart => exact ⟨i + 1, by omega, by go_num, by rw [grTo_start]; rfl, by rw [grTo_start]; rfl, Below.refl _ _⟩
  case round =>
    obtain ⟨k, hk, rfl, rfl, rfl, HB⟩ := hrel
    by_cases hkn : k < n
    · obtain ⟨ak, pk, gk, ik⟩ := HRW.out k (by rw [HNN.out]; exact hkn)
      obtain ⟨fk, hfk⟩ : ∃ fk, L[k]?.getD [] = fk := ⟨_, rfl⟩
      rw [hfk] at gk ik
      have HFK : Hid (faceAt L k = fk) := hfk
      have hfkl : fk.length ≤ 1000 := by rw [← hfk]; exact HX.out _ (faceAt_mem (by rw [HNN.out]; exact hkn))
      have mk := (HB.out.cell (p := ⟨gl, k, none⟩) (cell_lt (HM.out k (by rw [HNN.out]; exact hkn)))).trans (HM.out k (by rw [HNN.out]; exact hkn))
      have c1 := (HB.out.cell (p := ⟨bL, oL + i, none⟩) hbl).trans gi
      have c2 := (HB.out.cell (p := ⟨bL, oL + k, none⟩) hbl).trans gk
      have hpo : ∀ m, Calls Tryz.prog 46 #[.slice ai fi.length pi, .slice ak fk.length pk] (wr.drewN m) _ := fun m => part_of _ _ fi fk (wr.drewN m) (show Ints wr _ fi from HII.out.below HB.out) (show Ints wr _ fk from ik.below HB.out) (by omega) (by omega)
      obtain ⟨gn, hgn⟩ : ∃ gn, (grTo L left i k).length = gn := ⟨_, rfl⟩
      have hgb : gn ≤ 1000 := by have := grTo_len L left i k; omega
      have HGN : Hid ((grTo L left i k).length = gn) := hgn
      rw [hgn]
      have HGB : Hid (grB L left i k = (left k && (decide (fi.length < fk.length) && partB fi fk))) := by
        show _ = _
        unfold grB
        rw [HFI.out, HFK.out, decide_eq_true (show i < k by omega)]; rfl
      have z0 : (0 : Int) ≤ (k : Int) := by omega
      have z1 : (k : Int) < (n : Int) := by omega
      have z2 : (0 : Int) ≤ (i : Int) := by omega
      have z3 : (i : Int) < (n : Int) := by omega
      clear ik gk hfk hgn
      cases hlk : left k with
      | false =>
        rw [hlk] at mk
        have HNO : Hid (grTo L left i (k + 1) = grTo L left i k) := grTo_no (by rw [HGB.out, hlk]; rfl)
        clear hlk hpo
        go_wp2_with fail
        go_quiet (fail)
        go_wp2_with fail
        go_roundw
        case rel => exact ⟨k + 1, by omega, by go_num, by rw [HNO.out], by rw [HNO.out, HGN.out], ⟨HB.out.os, HB.out.tape, HB.out.output, HB.out.size, HB.out.block⟩⟩
        case measure => simp [intOf]; omega
      | true =>
        rw [hlk] at mk
        by_cases hll : fi.length < fk.length
        · have hlt : decide (fi.length < fk.length) = true := decide_eq_true hll
          cases hpp : fi.all (fun v => fk.contains v) with
          | true =>
            rw [hpp] at hpo
            have HYE : Hid (grTo L left i (k + 1) = grTo L left i k ++ [k]) := grTo_yes (by rw [HGB.out, hlk, decide_eq_true hll]; exact hpp)
            clear hlk hpp hll
            go_wp2_with fail
            go_quiet ((go_at_call 46; exact Calls.quiet_of (hpo _)))
            go_wp2_with fail
            go_roundw
            case rel => exact ⟨k + 1, by omega, by go_num, by rw [HYE.out, lastI_snoc], by rw [HYE.out, List.length_append, HGN.out]; rfl, ⟨HB.out.os, HB.out.tape, HB.out.output, HB.out.size, HB.out.block⟩⟩
            case measure => simp [intOf]; omega
          | false =>
            rw [hpp] at hpo
            have HNO : Hid (grTo L left i (k + 1) = grTo L left i k) := grTo_no (by rw [HGB.out, hlk, decide_eq_true hll]; exact hpp)
            clear hlk hpp hll
            go_wp2_with fail
            go_quiet ((go_at_call 46; exact Calls.quiet_of (hpo _)))
            go_wp2_with fail
            go_roundw
            case rel => exact ⟨k + 1, by omega, by go_num, by rw [HNO.out], by rw [HNO.out, HGN.out], ⟨HB.out.os, HB.out.tape, HB.out.output, HB.out.size, HB.out.block⟩⟩
            case measure => simp [intOf]; omega
        · have hlt : decide (fi.length < fk.length) = false := decide_eq_false hll
          have HNO : Hid (grTo L left i (k + 1) = grTo L left i k) := grTo_no (by rw [HGB.out, hlk, decide_eq_false hll]; rfl)
          clear hlk hll hpo
          go_wp2_with fail
          go_quiet (fail)
          go_wp2_with fail
          go_roundw
          case rel => exact ⟨k + 1, by omega, by go_num, by rw [HNO.out], by rw [HNO.out, HGN.out], ⟨HB.out.os, HB.out.tape, HB.out.output, HB.out.size, HB.out.block⟩⟩
          case measure => simp [intOf]; omega
    · obtain rfl : k = n := by omega
      go_wp2_with fail
      go_ret2
      exact ⟨by rw [HGA.out]; rfl, HB.out⟩

end Go.Proofs.YthdmfeidcldafaaGreatDoor
