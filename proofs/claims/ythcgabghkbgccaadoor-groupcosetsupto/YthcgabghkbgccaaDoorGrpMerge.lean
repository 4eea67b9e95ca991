/- The reference's merge: two classes become one. -/
import Derived.Test.YthcgabghkbgccaaDoorGrpFin
namespace Go.Proofs.YthcgabghkbgccaaDoor
open Go.RowKit Go.Sort

/-- What merge has done when k numbers are looked at. -/
def mergeTo (cls : Nat → Nat) (x y k : Nat) : Nat → Nat := fun i => if i < k ∧ cls i = y then x else cls i

set_option maxRecDepth 100000 in
set_option maxHeartbeats 1000000 in
theorem merge_ {cls : Nat → Nat} (g n cap a b : Nat) (w : World) (h : LeastRow w g n cap (fun i => (cls i : Int))) (ha : a < n) (hb : b < n) (hn : n ≤ 1000) (hc : ∀ i, i < n → cls i < 1000) :
    Calls Tryd.prog 37 #[.slice (some ⟨g, 0, none⟩) n cap, .int .i64 (a : Int), .int .i64 (b : Int)] w fun e w' => e = .returned (.tuple #[]) ∧ LeastRow w' g n cap (fun i => (joinC cls (a, b) i : Int)) ∧ KeepBut w w' g g := by
  obtain ⟨hcap, f, hr, hf⟩ := h
  replace hf : ∀ i, i < n → f i = .int .i64 (cls i : Int) := hf
  have HR : Hid (w.rowIs g 3 cap f ∧ (∀ i, i < n → f i = .int .i64 (cls i : Int)) ∧ ∀ i, i < n → cls i < 1000) := ⟨hr, hf, hc⟩
  have c1 := hr.cell (i := a) (by omega)
  have c2 := hr.cell (i := b) (by omega)
  rw [hf a ha] at c1
  rw [hf b hb] at c2
  have hx1 := hc a ha
  have hx2 := hc b hb
  have key : ∀ x y : Nat, x = min (cls a) (cls b) → y = max (cls a) (cls b) → ∀ i, i < n → mergeTo cls x y n i = joinC cls (a, b) i := fun x y hx hy i hi => by
    unfold mergeTo joinC
    rw [hx, hy]
    by_cases e : cls i = max (cls a) (cls b)
    · rw [if_pos ⟨hi, e⟩, if_pos e]
    · rw [if_neg (fun h => e h.2), if_neg e]
  have HK := Hid.mk' key
  obtain ⟨x, hx⟩ : ∃ x, cls a = x := ⟨_, rfl⟩
  obtain ⟨y, hy⟩ : ∃ y, cls b = y := ⟨_, rfl⟩
  have HXY : Hid (cls a = x ∧ cls b = y) := ⟨hx, hy⟩
  rw [hx] at c1 hx1
  rw [hy] at c2 hx2
  have za0 : (0 : Int) ≤ (a : Int) := by omega
  have za1 : (a : Int) < (n : Int) := by omega
  have zb0 : (0 : Int) ≤ (b : Int) := by omega
  have zb1 : (b : Int) < (n : Int) := by omega
  have HL0 : ∀ X Y : Nat, Hid (w.rowIs g 3 cap f ∧ (∀ i, i < n → f i = .int .i64 (mergeTo cls X Y 0 i : Int)) ∧ KeepBut w w g g) := fun X Y => ⟨hr, fun i hi => by rw [hf i hi]; unfold mergeTo; rw [if_neg (by omega)], KeepBut.refl _ _ _⟩
  clear hr hf hc key hx hy
  by_cases hxy : y < x
  · go_enter Tryd.func37, Tryd.ntmps37
    go_wp2_with fail
    have H0 := HL0 y x
    clear HL0 c1 c2
    go_loopw [8] (fun q W => ∃ (k : Nat) (f' : Nat → Value), k ≤ n ∧ q = .int .i64 k ∧ Hid (W.rowIs g 3 cap f' ∧ (∀ i, i < n → f' i = .int .i64 (mergeTo cls y x k i : Int)) ∧ KeepBut w W g g)) (fun q _ => n - (intOf q).toNat)
    case atStart => exact ⟨0, f, by omega, rfl, H0.out⟩
    case round =>
      obtain ⟨k, f', hk, rfl, HJ⟩ := hrel
      by_cases hkn : k < n
      · have ck := HJ.out.1.cell (i := k) (by omega)
        rw [HJ.out.2.1 k hkn, show mergeTo cls y x k k = cls k from if_neg (by omega)] at ck
        have fk := HJ.out.1.frozen k
        have hcl := HR.out.2.2 k hkn
        obtain ⟨z, hz⟩ : ∃ z, cls k = z := ⟨_, rfl⟩
        have HZ : Hid (cls k = z) := hz
        rw [hz] at ck hcl
        have z0 : (0 : Int) ≤ (k : Int) := by omega
        have z1 : (k : Int) < (n : Int) := by omega
        clear hz
        by_cases e : z = x
        · subst e
          go_wp2_with fail
          go_roundw
          case rel =>
            refine ⟨k + 1, _, by omega, by go_num, HJ.out.1.set k _, fun i hi => ?_, HJ.out.2.2.on (grown_at _ _ _) (fun b e => by cases e; exact .inl rfl)⟩
            unfold mergeTo
            by_cases e2 : i = k
            · rw [if_pos e2, if_pos ⟨by omega, by rw [e2]; exact HZ.out⟩]
            · rw [if_neg e2, HJ.out.2.1 i hi]
              unfold mergeTo
              by_cases e3 : i < k ∧ cls i = z
              · rw [if_pos e3, if_pos ⟨by omega, e3.2⟩]
              · rw [if_neg e3, if_neg (fun h => e3 ⟨by omega, h.2⟩)]
          case measure => simp [intOf]; omega
        · have hb : ((z : Int) == (x : Int)) = false := beq_false_of_ne (by omega)
          go_wp2_with fail
          go_roundw
          case rel =>
            refine ⟨k + 1, f', by omega, by go_num, HJ.out.1, fun i hi => ?_, HJ.out.2.2⟩
            rw [HJ.out.2.1 i hi]
            unfold mergeTo
            by_cases e3 : i < k ∧ cls i = x
            · rw [if_pos e3, if_pos ⟨by omega, e3.2⟩]
            · rw [if_neg e3, if_neg (fun h => by
                by_cases e2 : i = k
                · rw [e2, HZ.out] at h; exact e h.2
                · exact e3 ⟨by omega, h.2⟩)]
          case measure => simp [intOf]; omega
      · obtain rfl : k = n := by omega
        go_wp2_with fail
        refine bodyPost_end (v := .tuple #[]) ?_ rfl ⟨rfl, ⟨hcap, f', HJ.out.1, fun i hi => ?_⟩, HJ.out.2.2⟩
        · simp [results, Tryd.f37, go_sem]
        · rw [HJ.out.2.1 i hi, HK.out y x (by rw [HXY.out.1, HXY.out.2]; omega) (by rw [HXY.out.1, HXY.out.2]; omega) i hi]
  · go_enter Tryd.func37, Tryd.ntmps37
    go_wp2_with fail
    have H0 := HL0 x y
    clear HL0 c1 c2
    go_loopw [8] (fun q W => ∃ (k : Nat) (f' : Nat → Value), k ≤ n ∧ q = .int .i64 k ∧ Hid (W.rowIs g 3 cap f' ∧ (∀ i, i < n → f' i = .int .i64 (mergeTo cls x y k i : Int)) ∧ KeepBut w W g g)) (fun q _ => n - (intOf q).toNat)
    case atStart => exact ⟨0, f, by omega, rfl, H0.out⟩
    case round =>
      obtain ⟨k, f', hk, rfl, HJ⟩ := hrel
      by_cases hkn : k < n
      · have ck := HJ.out.1.cell (i := k) (by omega)
        rw [HJ.out.2.1 k hkn, show mergeTo cls x y k k = cls k from if_neg (by omega)] at ck
        have fk := HJ.out.1.frozen k
        have hcl := HR.out.2.2 k hkn
        obtain ⟨z, hz⟩ : ∃ z, cls k = z := ⟨_, rfl⟩
        have HZ : Hid (cls k = z) := hz
        rw [hz] at ck hcl
        have z0 : (0 : Int) ≤ (k : Int) := by omega
        have z1 : (k : Int) < (n : Int) := by omega
        clear hz
        by_cases e : z = y
        · subst e
          go_wp2_with fail
          go_roundw
          case rel =>
            refine ⟨k + 1, _, by omega, by go_num, HJ.out.1.set k _, fun i hi => ?_, HJ.out.2.2.on (grown_at _ _ _) (fun b e => by cases e; exact .inl rfl)⟩
            unfold mergeTo
            by_cases e2 : i = k
            · rw [if_pos e2, if_pos ⟨by omega, by rw [e2]; exact HZ.out⟩]
            · rw [if_neg e2, HJ.out.2.1 i hi]
              unfold mergeTo
              by_cases e3 : i < k ∧ cls i = z
              · rw [if_pos e3, if_pos ⟨by omega, e3.2⟩]
              · rw [if_neg e3, if_neg (fun h => e3 ⟨by omega, h.2⟩)]
          case measure => simp [intOf]; omega
        · have hb : ((z : Int) == (y : Int)) = false := beq_false_of_ne (by omega)
          go_wp2_with fail
          go_roundw
          case rel =>
            refine ⟨k + 1, f', by omega, by go_num, HJ.out.1, fun i hi => ?_, HJ.out.2.2⟩
            rw [HJ.out.2.1 i hi]
            unfold mergeTo
            by_cases e3 : i < k ∧ cls i = y
            · rw [if_pos e3, if_pos ⟨by omega, e3.2⟩]
            · rw [if_neg e3, if_neg (fun h => by
                by_cases e2 : i = k
                · rw [e2, HZ.out] at h; exact e h.2
                · exact e3 ⟨by omega, h.2⟩)]
          case measure => simp [intOf]; omega
      · obtain rfl : k = n := by omega
        go_wp2_with fail
        refine bodyPost_end (v := .tuple #[]) ?_ rfl ⟨rfl, ⟨hcap, f', HJ.out.1, fun i hi => ?_⟩, HJ.out.2.2⟩
        · simp [results, Tryd.f37, go_sem]
        · rw [HJ.out.2.1 i hi, HK.out x y (by rw [HXY.out.1, HXY.out.2]; omega) (by rw [HXY.out.1, HXY.out.2]; omega) i hi]

end Go.Proofs.YthcgabghkbgccaaDoor
