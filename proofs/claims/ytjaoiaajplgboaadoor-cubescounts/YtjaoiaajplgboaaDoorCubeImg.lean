/- Images as they read; what width, inside, isFull, plus answer; nothing that was there is written. -/
import Derived.Test.YtjaoiaajplgboaaDoorCubeMath2
import Derived.Test.YtjaoiaajplgboaaDoorBase
import Derived.Deep.RegionWith
import Derived.Deep.RegionHeld3
namespace Go.Proofs.YtjaoiaajplgboaaDoor
open Go.RowKit Go.Sort

/-- How wide an image is. -/
def wide (m : List (List UInt8)) : Nat := (m[0]?.getD []).length

/-- An image that can be gone through: no side is great, each row is as wide as the first. -/
structure Img (m : List (List UInt8)) : Prop where
  rows : m.length ≤ 1000
  cols : wide m ≤ 1000
  even : ∀ r ∈ m, r.length = wide m

/-- A corner's value. -/
def cornerV (a : Sq) : Value := .agg #[.int .i64 a.1, .int .i64 a.2]

theorem text_size {b : List UInt8} {s : ByteArray} (h : (⟨b.toArray⟩ : ByteArray) = s) : s.size = b.length := by subst h; simp [ByteArray.size]
theorem text_byte {b : List UInt8} {s : ByteArray} (h : (⟨b.toArray⟩ : ByteArray) = s) {i : Nat} (hi : i < s.size) : s[i]'hi = b[i]?.getD 0 := by
  subst h
  have hb : i < b.length := by simpa [ByteArray.size] using hi
  rw [List.getElem?_eq_getElem hb]
  rfl

theorem wrapI {x : Int} (h0 : -10000000 ≤ x) (h1 : x ≤ 10000000) : IntKind.i64.wrap x = x := by rw [IntKind.wrap_i64]; omega

set_option maxRecDepth 100000 in
theorem width_ (vm : Value) (m : List (List UInt8)) (w : World) (hm : Strs w vm m) (hl : m.length ≤ 1000) :
    Calls Tryd.prog 26 #[vm] w fun e w' => e = .returned (.int .i64 (wide m : Int)) ∧ w' = w := by
  obtain ⟨a, ca, rfl, -, ha⟩ := hm.open_
  clear hm
  by_cases h0 : m.length = 0
  · have hw : wide m = 0 := by unfold wide; rw [List.length_eq_zero_iff.1 h0]; rfl
    rw [hw, h0]
    clear ha h0 hw hl
    go_enter Tryd.func26, Tryd.ntmps26
    go_wp2
    go_ret
    exact ⟨rfl, rfl⟩
  · obtain ⟨b, o, rfl, -, -, c⟩ := ha (by omega)
    have c0 := c 0 (by omega)
    obtain ⟨s, hs⟩ : ∃ s, (⟨(m[0]?.getD []).toArray⟩ : ByteArray) = s := ⟨_, rfl⟩
    have hsz : s.size = wide m := text_size hs
    rw [show encStr (m[0]?.getD []) = .string ⟨(m[0]?.getD []).toArray⟩ from rfl, hs, Nat.add_zero] at c0
    rw [← hsz]
    clear c ha hs hsz
    go_enter Tryd.func26, Tryd.ntmps26
    go_wp2
    go_ret
    exact ⟨rfl, rfl⟩

set_option maxRecDepth 100000 in
theorem plus_ (x y dx dy : Int) (hx : -1000000 ≤ x ∧ x ≤ 1000000) (hy : -1000000 ≤ y ∧ y ≤ 1000000) (hdx : -1 ≤ dx ∧ dx ≤ 1) (hdy : -1 ≤ dy ∧ dy ≤ 1) (w : World) :
    Calls Tryd.prog 39 #[cornerV (x, y), .int .i64 dx, .int .i64 dy] w fun e w' => e = .returned (cornerV (x + dx, y + dy)) ∧ Below w.heap.size w w' := by
  have h1 : IntKind.i64.wrap (x + dx) = x + dx := wrapI (by omega) (by omega)
  have h2 : IntKind.i64.wrap (y + dy) = y + dy := wrapI (by omega) (by omega)
  have hBa : Below w.heap.size w (w.alloc (.cells #[.int .i64 x, .int .i64 y] 65)) := (Below.refl _ w).alloc (Nat.le_refl _) _
  unfold cornerV
  go_enter Tryd.func39, Tryd.ntmps39
  go_wp2
  refine bodyPost_ret (v := .agg #[.int .i64 (x + dx), .int .i64 (y + dy)]) ?_ rfl ⟨rfl, hBa.alloc hBa.size _⟩
  simp [results, Tryd.f39, go_sem]

set_option maxRecDepth 100000 in
set_option maxHeartbeats 4000000 in
theorem inside_ (vm : Value) (m : List (List UInt8)) (w : World) (hm : Strs w vm m) (hi : Img m) (x y : Int) (_hx : -1000000 ≤ x ∧ x ≤ 1000000) (_hy : -1000000 ≤ y ∧ y ≤ 1000000) :
    Calls Tryd.prog 45 #[vm, cornerV (x, y)] w fun e w' => e = .returned (.bool (decide (InSq (wide m) m.length (x, y)))) ∧ Below w.heap.size w w' := by
  have hBa : Below w.heap.size w (w.alloc (.cells #[.int .i64 x, .int .i64 y] 65)) := (Below.refl _ w).alloc (Nat.le_refl _) _
  have hwd : ∀ W, Below w.heap.size w W → _ := fun W hW => width_ vm m W (hm.below hW) hi.rows
  have hcols := hi.cols
  have hrows := hi.rows
  obtain ⟨a, ca, rfl, -, -⟩ := hm.open_
  clear hm hi
  unfold cornerV
  by_cases h1 : 0 ≤ y
  · by_cases h2 : y < (m.length : Int)
    · by_cases h3 : 0 ≤ x
      · by_cases h4 : x < (wide m : Int)
        · have hd : decide (InSq (wide m) m.length (x, y)) = true := decide_eq_true ⟨h3, h4, h1, h2⟩
          rw [hd]
          go_enter Tryd.func45, Tryd.ntmps45
          go_wp2_with fail
          go_region_with (go_at_call 26; refine (hwd _ (hBa.drew)).mono ?_; rintro e w2 ⟨rfl, rfl⟩)
          all_goals go_wp2
          all_goals go_ret
          all_goals exact ⟨rfl, hBa.drew⟩
        · have hd : decide (InSq (wide m) m.length (x, y)) = false := decide_eq_false fun h => h4 h.2.1
          have h4b : decide (x < (wide m : Int)) = false := decide_eq_false h4
          rw [hd]
          go_enter Tryd.func45, Tryd.ntmps45
          go_wp2_with fail
          go_region_with (go_at_call 26; refine (hwd _ (hBa.drew)).mono ?_; rintro e w2 ⟨rfl, rfl⟩)
          all_goals go_wp2
          all_goals go_ret
          all_goals exact ⟨rfl, hBa.drew⟩
      · have hd : decide (InSq (wide m) m.length (x, y)) = false := decide_eq_false fun h => h3 h.1
        have h3b : decide (0 ≤ x) = false := decide_eq_false h3
        rw [hd]
        clear hwd
        go_enter Tryd.func45, Tryd.ntmps45
        go_wp2_with fail
        go_region
        all_goals go_wp2
        all_goals go_ret
        all_goals exact ⟨rfl, hBa.drew⟩
    · have hd : decide (InSq (wide m) m.length (x, y)) = false := decide_eq_false fun h => h2 h.2.2.2
      have h2b : decide (y < (m.length : Int)) = false := decide_eq_false h2
      rw [hd]
      clear hwd
      go_enter Tryd.func45, Tryd.ntmps45
      go_wp2_with fail
      go_region
      all_goals go_wp2
      all_goals go_ret
      all_goals exact ⟨rfl, hBa.drew⟩
  · have hd : decide (InSq (wide m) m.length (x, y)) = false := decide_eq_false fun h => h1 h.2.2.1
    have h1b : decide (0 ≤ y) = false := decide_eq_false h1
    rw [hd]
    clear hwd
    go_enter Tryd.func45, Tryd.ntmps45
    go_wp2_with fail
    go_region
    all_goals go_wp2
    all_goals go_ret
    all_goals exact ⟨rfl, hBa.drew⟩

end Go.Proofs.YtjaoiaajplgboaaDoor
