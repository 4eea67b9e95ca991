/- What the reference's Full answers; nothing is written. -/
import Derived.Test.YtjaoiaajplgboaaDoorCubeFull
namespace Go.Proofs.YtjaoiaajplgboaaDoor
open Go.RowKit Go.Sort

theorem full_not {m : List (List UInt8)} {w h : Nat} {x y : Int} (hn : ¬ InSq w h (x, y)) : fullAt m w h x y = false := by
  unfold fullAt
  rw [decide_eq_false hn]; rfl

set_option maxRecDepth 100000 in
set_option maxHeartbeats 4000000 in
theorem ref_full (vm : Value) (m : List (List UInt8)) (w : World) (hm : Strs w vm m) (hi : Img m) (x y : Int) (hx : -1000000 ≤ x ∧ x ≤ 1000000) (hy : -1000000 ≤ y ∧ y ≤ 1000000) :
    Calls Tryd.prog 29 #[vm, .int .i64 x, .int .i64 y] w fun e w' => e = .returned (.bool (fullAt m (wide m) m.length x y)) ∧ w' = w := by
  obtain ⟨a, ca, rfl, -, ha⟩ := hm.open_
  clear hm
  by_cases h1 : 0 ≤ y
  · by_cases h2 : y < (m.length : Int)
    · obtain ⟨j, rfl⟩ : ∃ j : Nat, y = (j : Int) := ⟨y.toNat, by omega⟩
      have hj : j < m.length := by omega
      obtain ⟨b, o, rfl, -, hb, c⟩ := ha (by omega)
      have cj := c j hj
      obtain ⟨s, hs⟩ : ∃ s, (⟨(m[j]?.getD []).toArray⟩ : ByteArray) = s := ⟨_, rfl⟩
      have hsz : s.size = wide m := (text_size hs).trans (row_of hi hj)
      rw [show encStr (m[j]?.getD []) = .string ⟨(m[j]?.getD []).toArray⟩ from rfl, hs] at cj
      by_cases h3 : 0 ≤ x
      · by_cases h4 : x < (wide m : Int)
        · obtain ⟨i, rfl⟩ : ∃ i : Nat, x = (i : Int) := ⟨x.toNat, by omega⟩
          have hf : fullAt m (wide m) m.length (i : Int) (j : Int) = (byteOf m ((i : Int), (j : Int)) == 35) := by unfold fullAt; rw [decide_eq_true (show InSq (wide m) m.length ((i : Int), (j : Int)) from ⟨h3, h4, h1, h2⟩)]; rfl
          have his : i < s.size := by omega
          rw [hf, ← byte_eq hs his]
          obtain ⟨q, hq⟩ : ∃ q, s[i]'his = q := ⟨_, rfl⟩
          rw [hq]
          have hq8 : q.toNat < 256 := q.toNat_lt
          have hqb : (q == 35) = ((q.toNat : Int) == 35) := by
            rw [Bool.eq_iff_iff, beq_iff_eq, beq_iff_eq]
            constructor
            · rintro rfl; rfl
            · intro e; exact UInt8.toNat_inj.1 (by have : (35 : UInt8).toNat = 35 := rfl; omega)
          rw [hqb]
          clear hqb hf ha c hs
          have h4s : (i : Int) < (s.size : Int) := by omega
          go_enter Tryd.func29, Tryd.ntmps29
          go_wp2
          go_ret
          exact ⟨rfl, rfl⟩
        · rw [full_not fun h => h4 h.2.1]
          have h4b : decide (x < (s.size : Int)) = false := decide_eq_false (by omega)
          clear ha c hs
          go_enter Tryd.func29, Tryd.ntmps29
          go_wp2
          go_ret
          exact ⟨rfl, rfl⟩
      · rw [full_not fun h => h3 h.1]
        have h3b : decide (0 ≤ x) = false := decide_eq_false h3
        clear ha c hs
        go_enter Tryd.func29, Tryd.ntmps29
        go_wp2
        go_ret
        exact ⟨rfl, rfl⟩
    · rw [full_not fun h => h2 h.2.2.2]
      have h2b : decide (y < (m.length : Int)) = false := decide_eq_false h2
      clear ha
      go_enter Tryd.func29, Tryd.ntmps29
      go_wp2
      go_ret
      exact ⟨rfl, rfl⟩
  · rw [full_not fun h => h1 h.2.2.1]
    have h1b : decide (0 ≤ y) = false := decide_eq_false h1
    clear ha
    go_enter Tryd.func29, Tryd.ntmps29
    go_wp2
    go_ret
    exact ⟨rfl, rfl⟩

end Go.Proofs.YtjaoiaajplgboaaDoor
