/- What greatest answers: the greatest vertex of all faces. -/
import Derived.Test.YtopopbhpclhinaaGreatDoorKept
import Derived.Test.YtopopbhpclhinaaGreatDoorJoinMath
import Derived.Deep.AppendLies
namespace Go.Proofs.YtopopbhpclhinaaGreatDoor
open Go.RowKit Go.Sort Go.Maps

theorem kept_all {F ss : List (List UInt8)} {left : Lit → Bool} (hF : F.Nodup) (h : KeptSo F (fun _ => true) left ss) (hl : ∀ z, left z = false) : ss.Perm F :=
  (List.perm_ext_iff_of_nodup h.1 hF).2 (fun x => by rw [h.2 x, hl]; simp)
theorem text_string (x : List UInt8) : encStr x = .string ⟨x.toArray⟩ := rfl
theorem last_ints {x : List UInt8} {L : Nat} (hL : x.length = L + 1) {c : UInt8} (hc : x[L]? = some c) : (ints x).getLast?.getD (-1) = (c.toNat : Int) := by
  rw [List.getLast?_eq_getElem?, ints_length, hL, Nat.add_sub_cancel]
  unfold ints
  rw [List.getElem?_map, hc]; rfl

set_option maxRecDepth 100000 in
set_option maxHeartbeats 2000000 in
theorem greatest_ (b : Nat) (F : List (List UInt8)) (G : List UInt8 → Prop) (w : World) (hP : PileAt w b F G) (_hF : F.length ≤ 100000) (hn : F.Nodup) (hx : ∀ x ∈ F, x.length ≤ 1000) (hne : ∀ x ∈ F, x ≠ []) :
    Calls Tryz.prog 25 #[.map (some b)] w fun e w' => e = .returned (.int .i64 (topV (F.map ints))) ∧ Below w.heap.size w w' := by
  obtain ⟨D, d1, d2, d3, -⟩ := hP
  have hbl := d1.lt
  have HD2 : Hid (∀ x : List UInt8, Maps.has D (.string x) = true ↔ x ∈ F) := d2
  have HFX : Hid (F.Nodup ∧ (∀ x ∈ F, x.length ≤ 1000) ∧ ∀ x ∈ F, x ≠ []) := ⟨hn, hx, hne⟩
  clear d2 hn hx hne
  go_enter Tryz.func25, Tryz.ntmps25
  go_wp2_with (first
    | (at_range; refine wpList_range_own _ rfl _ 48 rfl 9 3 law_string Tryz.underlying48 _ b _ _ rfl d1 ?_; intro w0 hrg0 hg0 hs0)
    | go_in)
  (try go_frame)
  go_loopw [3] (fun v wr => ∃ (left : Lit → Bool) (cnt : Nat) (ss : List (List UInt8)), wr.ranges Tryz.prog 9 (plainElem Tryz.prog 3) b w.heap.size F.length D left cnt ∧ ss.length + cnt ≤ F.length ∧
      v = .int .i64 (topV (ss.map ints)) ∧ KeptSo F (fun _ => true) left ss ∧ Below w.heap.size w wr)
    (fun _ wr => wr.rangeLeft b w.heap.size)
  case atStart =>
    refine ⟨_, _, [], hrg0, by rw [← d3]; simp, rfl, ⟨List.nodup_nil, fun x => ⟨fun h => (by cases h), fun ⟨⟨h1, _⟩, h2⟩ => ?_⟩⟩, (Below.refl _ _).grown hg0 (Nat.le_refl _) (fun j hj => by cases hj)⟩
    rw [(HD2.out x).2 h1] at h2; cases h2
  case round =>
    obtain ⟨left, cnt, ss, hrg, hcs, rfl, hso, hnx⟩ := hrel
    go_wp2_with (first
      | (at_next; refine wpList_next_ranges _ rfl _ rfl 9 law_string (plainElem Tryz.prog 3) encStr (Value.int .i64) (fun key kl hk => by obtain ⟨x, hx, _⟩ := Maps.keyOf_str Tryz.underlying9 hk; exact ⟨x, hx⟩) (fun v y hv => by obtain ⟨c, rfl, _⟩ := plainElem_int_inv Tryz.underlying3 hv; exact ⟨c, rfl⟩) b w.heap.size F.length _ _ _ rfl hrg ?_ ?_)
      | go_in)
    · intro hc0 hl0
      have HE : Hid (topV (ss.map ints) = topV (F.map ints)) := topV_perm ((kept_all HFX.out.1 hso hl0).map ints)
      clear hso hl0 hrg
      go_wp2
      go_ret
      exact ⟨by rw [HE.out]; rfl, hnx⟩
    · intro x c kl yd yp w2 cnt2 hkey hlk hv hat hrg2 hlt hg2 hs2 hen
      obtain ⟨x', ex, rfl, _⟩ := Maps.keyOf_str Tryz.underlying9 hkey
      obtain rfl : x = x' := encStr_inj ex
      have hxF : x ∈ F := (HD2.out x).1 (has_true_of_atKey hat)
      have hB2 : Below w.heap.size w w2 := hnx.grown hg2 hnx.size (fun j hj => by cases hj; exact Nat.le_refl _)
      have hst := kept_step hso hlk hxF
      rw [if_pos rfl] at hst
      have HST : Hid (KeptSo F (fun _ => true) (fun z => left z && !z.sameKey (.string x)) (ss ++ [x])) := hst
      have hxl : x.length ≤ 1000 := HFX.out.2.1 x hxF
      have hxp : 0 < x.length := List.length_pos_iff.2 (HFX.out.2.2 x hxF)
      have HLT : Hid (wr.rangeLeft b w.heap.size = cnt) := hrg.left_eq
      obtain ⟨L, hL⟩ : ∃ L, x.length = L + 1 := ⟨x.length - 1, by omega⟩
      obtain ⟨s, hs⟩ : ∃ s : ByteArray, (⟨x.toArray⟩ : ByteArray) = s := ⟨_, rfl⟩
      have hsz : s.size = L + 1 := by rw [← hs, ← hL]; rfl
      have hks : L < s.size := by omega
      obtain ⟨z, hz⟩ : ∃ z, s[L]'hks = z := ⟨_, rfl⟩
      have hxz : x[L]? = some z := by
        rw [List.getElem?_eq_getElem (by omega), ← hz]
        subst hs
        rfl
      have HZX : Hid (∀ h : x.length - 1 < (⟨x.toArray⟩ : ByteArray).size, ((⟨x.toArray⟩ : ByteArray)[x.length - 1]'h) = z) := fun h => by
        have e : x.length - 1 = L := by omega
        have h2 : x[x.length - 1]? = some z := by rw [e]; exact hxz
        rw [List.getElem?_eq_getElem (by omega)] at h2
        exact Option.some.inj h2
      have HTP : Hid (topV ((ss ++ [x]).map ints) = max (topV (ss.map ints)) (z.toNat : Int)) := by
        show topV ((ss ++ [x]).map ints) = _
        rw [List.map_append, List.map_cons, List.map_nil, topV_snoc, last_ints hL hxz]
      obtain ⟨T, hT⟩ : ∃ T, topV (ss.map ints) = T := ⟨_, rfl⟩
      rw [hT] at HTP ⊢
      have hx1 : (1 : Int) ≤ (x.length : Int) := by omega
      have hx2 : (x.length : Int) - 1 < (x.length : Int) := by omega
      have hn0 : (0 : Int) ≤ (L : Int) := by omega
      have hz8 : z.toNat < 256 := z.toNat_lt
      rw [text_string, hs]
      clear hs2 hst hso hkey hv hat ex hrg hnx hg2 hT hxz hs hL hxp
      go_wp2
      go_roundw
      case rel => exact ⟨_, cnt2, ss ++ [x], hrg2, by simp; omega, by rw [HTP.out, HZX.out, show wrap64 (z.toNat : Int) = (z.toNat : Int) by unfold wrap64; omega], HST.out, hB2⟩
      case measure => rw [hrg2.left_eq, HLT.out]; exact hlt

end Go.Proofs.YtopopbhpclhinaaGreatDoor
