/- What picture answers: the same rows, in memory of its own. What little answers: true only of images of few rows; nothing is written. (The sum of the rows' lengths may run over: no more is told.) What the reference's Full answers; nothing is written. What the reference's touched answers: whether a look beside a cell finds a full square. What the reference's Dim answers of a cell; nothing that was there is written. -/
import Derived.Test.YtbmojlnkjeapkaaGreatDoorCubeErr
import Derived.Test.YtbmojlnkjeapkaaGreatDoorHeldQuiet
import Derived.Test.YtbmojlnkjeapkaaGreatDoorCubeBad
namespace Go.Proofs.YtbmojlnkjeapkaaGreatDoor
open Go.RowKit Go.Sort

set_option maxRecDepth 100000 in
theorem picture_ (vm : Value) (m : List (List UInt8)) (w : World) (hm : Strs w vm m) (hl : m.length ≤ 1000) :
    Calls Tryz.prog 8 #[vm] w fun e w' => ∃ v, e = .returned v ∧ StrsIn (fun b => w.heap.size ≤ b) w' v m ∧ Below w.heap.size w w' := by
  obtain ⟨i0, hi, hz0, hz1, hz2⟩ := info_parts Tryz.info9
  have HS := hm
  obtain ⟨a, ca, rfl, -, -⟩ := hm.open_
  have hown := World.ownsRow_nil w w.heap.size 9 1
  clear hm
  go_enter Tryz.func8, Tryz.ntmps8
  go_wp2_with (first
    | (at_builtin; refine wpList_append_slice2 rfl (.tmp 4) (.tmp 5) 33 22 9 Tryz.underlying22 rfl w.heap.size 9 i0 (.string ⟨#[]⟩) 16 Tryz.underlying33 hi hz0 hz1 hz2 rfl _ _ _ rfl hown _ (m.map encStr) rfl HS (fun c hc => by obtain ⟨y, _, rfl⟩ := List.mem_map.1 hc; rfl) (by simp; omega) (by unfold maxLen; simp; omega) (Nat.le_refl _) ?_; intro v4 w4 hown4 hg4 hl4)
    | go_in)
  go_ret
  exact ⟨_, rfl, slice_of_owns (by simpa using hown4) (fun b hb _ => hb), (Below.refl _ w).grown hg4 (Nat.le_refl _) (fun j hj => by cases hj)⟩

end Go.Proofs.YtbmojlnkjeapkaaGreatDoor

namespace Go.Proofs.YtbmojlnkjeapkaaGreatDoor
open Go.RowKit Go.Sort

set_option maxRecDepth 100000 in
theorem little_ (vm : Value) (m : List (List UInt8)) (w : World) (hm : Strs w vm m) (hl : m.length ≤ maxLen) (most : Int) :
    Calls Tryz.prog 5 #[vm, .int .i64 most] w fun e w' => ∃ q : Bool, e = .returned (.bool q) ∧ w' = w ∧ (q = true → m.length ≤ 60) := by
  obtain ⟨a, ca, rfl, -, ha⟩ := hm.open_
  clear hm
  have hl2 : m.length ≤ 9223372036854775807 := hl
  clear hl
  go_enter Tryz.func5, Tryz.ntmps5
  go_wp2
  go_loopw [5, 6] (fun v p W => ∃ (k : Nat) (n : Int), k ≤ m.length ∧ p = .int .i64 k ∧ v = .int .i64 n ∧ W = w) (fun _ p _ => m.length - (intOf p).toNat)
  case atStart => exact ⟨0, 0, by omega, rfl, rfl, rfl⟩
  case round =>
    obtain ⟨k, n, hk, rfl, rfl, rfl⟩ := hrel
    by_cases hlt : k < m.length
    · obtain ⟨b, o, rfl, -, hb, c⟩ := ha (by omega)
      have cj := c k hlt
      obtain ⟨s, hs⟩ : ∃ s, (⟨(m[k]?.getD []).toArray⟩ : ByteArray) = s := ⟨_, rfl⟩
      rw [show encStr (m[k]?.getD []) = .string ⟨(m[k]?.getD []).toArray⟩ from rfl, hs] at cj
      clear ha c hs
      go_wp2
      go_roundw
      case rel => exact ⟨k + 1, _, by omega, by go_num, rfl, (by first | trivial | rfl)⟩
      case measure => simp [intOf]; omega
    · obtain rfl : k = m.length := by omega
      clear ha
      by_cases h60 : (m.length : Int) ≤ 60
      · go_wp2
        go_ret
        exact ⟨_, rfl, rfl, fun _ => by omega⟩
      · have h60b : decide ((m.length : Int) ≤ 60) = false := decide_eq_false h60
        go_wp2
        go_ret
        exact .inl ⟨rfl, rfl⟩

end Go.Proofs.YtbmojlnkjeapkaaGreatDoor

namespace Go.Proofs.YtbmojlnkjeapkaaGreatDoor
open Go.RowKit Go.Sort

theorem full_not {m : List (List UInt8)} {w h : Nat} {x y : Int} (hn : ¬ InSq w h (x, y)) : fullAt m w h x y = false := by
  unfold fullAt
  rw [decide_eq_false hn]; rfl

set_option maxRecDepth 100000 in
set_option maxHeartbeats 4000000 in
theorem ref_full (vm : Value) (m : List (List UInt8)) (w : World) (hm : Strs w vm m) (hi : Img m) (x y : Int) (hx : -1000000 ≤ x ∧ x ≤ 1000000) (hy : -1000000 ≤ y ∧ y ≤ 1000000) :
    Calls Tryz.prog 26 #[vm, .int .i64 x, .int .i64 y] w fun e w' => e = .returned (.bool (fullAt m (wide m) m.length x y)) ∧ w' = w := by
  obtain ⟨a, ca, rfl, -, ha⟩ := hm.open_
  clear hm
  by_cases h1 : 0 ≤ y
  · by_cases h2 : y < (m.length : Int)
    · obtain ⟨j, rfl⟩ : ∃ j : Nat, y = (j : Int) := ⟨y.toNat, by omega⟩
      have hj : j < m.length := by omega
      obtain ⟨b, o, rfl, -, hb, c⟩ := ha (by omega)
      have cj := c j hj
      obtain ⟨s, hs⟩ : ∃ s, (⟨(m[j]?.getD []).toArray⟩ : ByteArray) = s := ⟨_, rfl⟩
      have hsz : s.size = wide m := (text_size hs).trans (row_of hi hj)
      rw [show encStr (m[j]?.getD []) = .string ⟨(m[j]?.getD []).toArray⟩ from rfl, hs] at cj
      by_cases h3 : 0 ≤ x
      · by_cases h4 : x < (wide m : Int)
        · obtain ⟨i, rfl⟩ : ∃ i : Nat, x = (i : Int) := ⟨x.toNat, by omega⟩
          have hf : fullAt m (wide m) m.length (i : Int) (j : Int) = (byteOf m ((i : Int), (j : Int)) == 35) := by unfold fullAt; rw [decide_eq_true (show InSq (wide m) m.length ((i : Int), (j : Int)) from ⟨h3, h4, h1, h2⟩)]; rfl
          have his : i < s.size := by omega
          rw [hf, ← byte_eq hs his]
          obtain ⟨q, hq⟩ : ∃ q, s[i]'his = q := ⟨_, rfl⟩
          rw [hq]
          have hq8 : q.toNat < 256 := q.toNat_lt
          have hqb : (q == 35) = ((q.toNat : Int) == 35) := by
            rw [Bool.eq_iff_iff, beq_iff_eq, beq_iff_eq]
            constructor
            · rintro rfl; rfl
            · intro e; exact UInt8.toNat_inj.1 (by have : (35 : UInt8).toNat = 35 := rfl; omega)
          rw [hqb]
          clear hqb hf ha c hs
          have h4s : (i : Int) < (s.size : Int) := by omega
          go_enter Tryz.func26, Tryz.ntmps26
          go_wp2
          go_ret
          exact ⟨rfl, rfl⟩
        · rw [full_not fun h => h4 h.2.1]
          have h4b : decide (x < (s.size : Int)) = false := decide_eq_false (by omega)
          clear ha c hs
          go_enter Tryz.func26, Tryz.ntmps26
          go_wp2
          go_ret
          exact ⟨rfl, rfl⟩
      · rw [full_not fun h => h3 h.1]
        have h3b : decide (0 ≤ x) = false := decide_eq_false h3
        clear ha c hs
        go_enter Tryz.func26, Tryz.ntmps26
        go_wp2
        go_ret
        exact ⟨rfl, rfl⟩
    · rw [full_not fun h => h2 h.2.2.2]
      have h2b : decide (y < (m.length : Int)) = false := decide_eq_false h2
      clear ha
      go_enter Tryz.func26, Tryz.ntmps26
      go_wp2
      go_ret
      exact ⟨rfl, rfl⟩
  · rw [full_not fun h => h1 h.2.2.1]
    have h1b : decide (0 ≤ y) = false := decide_eq_false h1
    clear ha
    go_enter Tryz.func26, Tryz.ntmps26
    go_wp2
    go_ret
    exact ⟨rfl, rfl⟩

end Go.Proofs.YtbmojlnkjeapkaaGreatDoor

namespace Go.Proofs.YtbmojlnkjeapkaaGreatDoor
open Go.RowKit Go.Sort

/-- Of the looks ahead of this one none has found any. -/
def NoneTo (f : Int → Int → Bool) (X Y : Int) (dy dx : Int) : Prop := ∀ u v : Int, -1 ≤ u → u ≤ 1 → -1 ≤ v → (v < dy ∨ v = dy ∧ u < dx) → ¬ Hit f X Y u v

theorem none_next {f : Int → Int → Bool} {X Y dy dx : Int} (h : NoneTo f X Y dy dx) (hn : ¬ Hit f X Y dx dy) : NoneTo f X Y dy (dx + 1) := by
  intro u v h1 h2 h3 h4
  by_cases e : v = dy ∧ u = dx
  · obtain ⟨rfl, rfl⟩ := e; exact hn
  · exact h u v h1 h2 h3 (by omega)

/-- What touched answers. -/
def TouchedSays (f : Int → Int → Bool) (X Y : Int) (w : World) (e : Ending) (w' : World) : Prop := ∃ q : Bool, e = .returned (.bool q) ∧ (q = true ↔ HitAny f X Y) ∧ Below w.heap.size w w'

set_option maxRecDepth 100000 in
set_option maxHeartbeats 4000000 in
theorem touched_ (vm : Value) (m : List (List UInt8)) (w : World) (hm : Strs w vm m) (hi : Img m) (X Y : Nat) (hX : X ≤ 10000) (hY : Y ≤ 10000) :
    Calls Tryz.prog 47 #[vm, cornerV ((X : Int), (Y : Int))] w fun e w' => TouchedSays (fullAt m (wide m) m.length) X Y w e w' := by
  obtain ⟨a, ca, rfl, -, -⟩ := hm.open_
  have HM : Hid (Strs w (.slice a m.length ca) m) := hm
  have HI : Hid (Img m) := hi
  have hBa : Below w.heap.size w (w.alloc (.cells #[.int .i64 (X : Int), .int .i64 (Y : Int)] 73)) := (Below.refl _ w).alloc (Nat.le_refl _) _
  have h2 := two_cells w (.int .i64 (X : Int)) (.int .i64 (Y : Int)) 73
  clear hm hi
  unfold cornerV
  go_enter Tryz.func47, Tryz.ntmps47
  go_wp2
  obtain ⟨w1, hw1⟩ : ∃ w1, w.alloc (.cells #[.int .i64 (X : Int), .int .i64 (Y : Int)] 73) = w1 := ⟨_, rfl⟩
  rw [hw1] at h2 hBa
  rw [hw1]
  clear hw1
  go_loopw [5] (fun p W => ∃ dy : Int, -1 ≤ dy ∧ dy ≤ 2 ∧ p = .int .i64 dy ∧ Hid (NoneTo (fullAt m (wide m) m.length) X Y dy (-1)) ∧ Hid (Drawn w1 W)) (fun p _ => (2 - intOf p).toNat)
  case atStart => exact ⟨-1, by omega, by omega, rfl, fun u v h1 h2 h3 h4 => by omega, Drawn.refl _⟩
  case round =>
    obtain ⟨dy, hd1, hd2, rfl, HN, HD⟩ := hrel
    by_cases hdy : dy ≤ 1
    · go_wp2
      go_loopw [6] (fun p W => ∃ dx : Int, -1 ≤ dx ∧ dx ≤ 2 ∧ p = .int .i64 dx ∧ Hid (NoneTo (fullAt m (wide m) m.length) X Y dy dx) ∧ Hid (Drawn w1 W)) (fun p _ => (2 - intOf p).toNat)
      case atStart => exact ⟨-1, by omega, by omega, rfl, HN.out, HD.out⟩
      case round =>
        obtain ⟨dx, he1, he2, rfl, HNx, HDx⟩ := hrel
        have c0 := (HDx.out.cell ⟨w.heap.size, 0, none⟩).trans h2.1
        have c1 := (HDx.out.cell ⟨w.heap.size, 1, none⟩).trans h2.2
        by_cases hdx : dx ≤ 1
        · have ex : ((X : Int) + dx + 2).tmod 2 = ((X : Int) + dx + 2) % 2 := Int.tmod_eq_emod_of_nonneg (by omega)
          have ey : ((Y : Int) + dy + 2).tmod 2 = ((Y : Int) + dy + 2) % 2 := Int.tmod_eq_emod_of_nonneg (by omega)
          have sx : (X : Int).tmod 2 = (X : Int) % 2 := Int.tmod_eq_emod_of_nonneg (by omega)
          have sy : (Y : Int).tmod 2 = (Y : Int) % 2 := Int.tmod_eq_emod_of_nonneg (by omega)
          by_cases hH : (((X : Int) + dx + 2) % 2 = 1 ∧ ((Y : Int) + dy + 2) % 2 = 1 ∧ (dx = 0 ∨ (X : Int) % 2 = 0) ∧ (dy = 0 ∨ (Y : Int) % 2 = 0)) ∧ 0 < (X : Int) + dx ∧ 0 < (Y : Int) + dy
          · obtain ⟨⟨a1, a2, a3, a4⟩, hp, hq⟩ := hH
            have hfull := ref_full (.slice a m.length ca) m wr (HM.out.below (hBa.trans (HDx.out.below.mono hBa.size))) HI.out (((X : Int) + dx - 1) / 2) (((Y : Int) + dy - 1) / 2) (by omega) (by omega)
            obtain ⟨q0, hq0⟩ : ∃ q0, fullAt m (wide m) m.length (((X : Int) + dx - 1) / 2) (((Y : Int) + dy - 1) / 2) = q0 := ⟨_, rfl⟩
            rw [hq0] at hfull
            have HHq : Hid (Hit (fullAt m (wide m) m.length) X Y dx dy ↔ q0 = true) := by
              show _ ↔ _
              rw [← hq0]
              exact ⟨fun h => h.2.2.2.2.2.2, fun h => ⟨a1, a2, a3, a4, hp, hq, h⟩⟩
            rw [a1] at ex
            rw [a2] at ey
            clear hq0
            have tx : (dx = 0 ∧ (X : Int) % 2 = 1) ∨ (¬ dx = 0 ∧ (X : Int) % 2 = 0) := by omega
            have ty : (dy = 0 ∧ (Y : Int) % 2 = 1) ∨ (¬ dy = 0 ∧ (Y : Int) % 2 = 0) := by omega
            clear a1 a2 a3 a4
            rcases tx with ⟨t1, t2⟩ | ⟨t1, t2⟩ <;> rcases ty with ⟨t3, t4⟩ | ⟨t3, t4⟩
            all_goals
              rw [t2] at sx
              rw [t4] at sy
              first | have t1b : (dx == 0) = true := beq_iff_eq.2 t1 | have t1b : (dx == 0) = false := beq_false_of_ne t1
              first | have t3b : (dy == 0) = true := beq_iff_eq.2 t3 | have t3b : (dy == 0) = false := beq_false_of_ne t3
              clear t1 t2 t3 t4
              cases q0
              · have HH : Hid (¬ Hit (fullAt m (wide m) m.length) X Y dx dy) := by show ¬ _; rw [HHq.out]; simp
                go_wp2_with (go_at_call 26; refine hfull.mono ?_; rintro e w' ⟨rfl, rfl⟩)
                go_roundw
                case rel => exact ⟨dx + 1, by omega, by omega, by go_num, none_next HNx.out HH.out, HDx.out⟩
                case measure => simp [intOf]; omega
              · have HT : Hid (HitAny (fullAt m (wide m) m.length) X Y) := ⟨dx, dy, by omega, by omega, by omega, by omega, HHq.out.2 rfl⟩
                go_wp2_with (go_at_call 26; refine hfull.mono ?_; rintro e w' ⟨rfl, rfl⟩)
                go_ret
                exact ⟨true, rfl, ⟨fun _ => HT.out, fun _ => rfl⟩, hBa.trans (HDx.out.below.mono hBa.size)⟩
          · have HH : Hid (¬ Hit (fullAt m (wide m) m.length) X Y dx dy) := fun h => hH ⟨⟨h.1, h.2.1, h.2.2.1, h.2.2.2.1⟩, h.2.2.2.2.1, h.2.2.2.2.2.1⟩
            by_cases t1 : dx = 0 <;> by_cases t3 : dy = 0 <;> rcases (show (X : Int) % 2 = 0 ∨ (X : Int) % 2 = 1 by omega) with t2 | t2 <;> rcases (show (Y : Int) % 2 = 0 ∨ (Y : Int) % 2 = 1 by omega) with t4 | t4
            all_goals
              first | (have a1 : ((X : Int) + dx + 2) % 2 = 1 := by omega) | (have a1 : ((X : Int) + dx + 2) % 2 = 0 := by omega)
              first | (have a2 : ((Y : Int) + dy + 2) % 2 = 1 := by omega) | (have a2 : ((Y : Int) + dy + 2) % 2 = 0 := by omega)
              rw [a1] at ex
              rw [a2] at ey
              rw [t2] at sx
              rw [t4] at sy
              first | have t1b : (dx == 0) = true := beq_iff_eq.2 t1 | have t1b : (dx == 0) = false := beq_false_of_ne t1
              first | have t3b : (dy == 0) = true := beq_iff_eq.2 t3 | have t3b : (dy == 0) = false := beq_false_of_ne t3
              by_cases hp : 0 < (X : Int) + dx
              · by_cases hq : 0 < (Y : Int) + dy
                · first
                  | (exfalso; clear ex ey sx sy t1b t3b; omega)
                  | (clear hH t1 t2 t3 t4 a1 a2
                     go_wp2
                     go_roundw
                     case rel => exact ⟨dx + 1, by omega, by omega, by go_num, none_next HNx.out HH.out, HDx.out⟩
                     case measure => simp [intOf]; omega)
                · have hqb : decide (0 < (Y : Int) + dy) = false := decide_eq_false hq
                  clear hH t1 t2 t3 t4 a1 a2
                  go_wp2
                  go_roundw
                  case rel => exact ⟨dx + 1, by omega, by omega, by go_num, none_next HNx.out HH.out, HDx.out⟩
                  case measure => simp [intOf]; omega
              · have hpb : decide (0 < (X : Int) + dx) = false := decide_eq_false hp
                clear hH t1 t2 t3 t4 a1 a2
                go_wp2
                go_roundw
                case rel => exact ⟨dx + 1, by omega, by omega, by go_num, none_next HNx.out HH.out, HDx.out⟩
                case measure => simp [intOf]; omega
        · obtain rfl : dx = 2 := by omega
          go_wp2
          go_roundw
          case rel => exact ⟨dy + 1, by omega, by omega, by go_num, (fun u v h1 h2 h3 h4 => HNx.out u v h1 h2 h3 (by omega)), HDx.out⟩
          case measure => simp [intOf]; omega
    · obtain rfl : dy = 2 := by omega
      go_wp2
      go_ret
      refine ⟨false, rfl, ⟨fun h => by (cases h), ?_⟩, hBa.trans (HD.out.below.mono hBa.size)⟩
      rintro ⟨u, v, h1, h2, h3, h4, h5⟩
      exact absurd h5 (HN.out u v h1 h2 h3 (by omega))

end Go.Proofs.YtbmojlnkjeapkaaGreatDoor

namespace Go.Proofs.YtbmojlnkjeapkaaGreatDoor
open Go.RowKit Go.Sort

set_option maxRecDepth 100000 in
theorem dim_ (X Y : Nat) (hX : X ≤ 100000) (hY : Y ≤ 100000) (w : World) :
    Calls Tryz.prog 46 #[cornerV ((X : Int), (Y : Int))] w fun e w' => e = .returned (.int .i64 ((X % 2 + Y % 2 : Nat) : Int)) ∧ Below w.heap.size w w' := by
  have hBa : Below w.heap.size w (w.alloc (.cells #[.int .i64 (X : Int), .int .i64 (Y : Int)] 73)) := (Below.refl _ w).alloc (Nat.le_refl _) _
  obtain ⟨i, hi⟩ : ∃ i, X % 2 = i := ⟨_, rfl⟩
  obtain ⟨j, hj⟩ : ∃ j, Y % 2 = j := ⟨_, rfl⟩
  have hi2 : i ≤ 1 := by omega
  have hj2 : j ≤ 1 := by omega
  have h1 : (X : Int).tmod 2 = (i : Int) := by rw [Int.tmod_eq_emod_of_nonneg (by omega)]; omega
  have h2 : (Y : Int).tmod 2 = (j : Int) := by rw [Int.tmod_eq_emod_of_nonneg (by omega)]; omega
  have h3 : IntKind.i64.wrap ((i : Int) + (j : Int)) = (i : Int) + (j : Int) := wrapI (by omega) (by omega)
  have h4 : IntKind.i64.wrap (i : Int) = (i : Int) := wrapI (by omega) (by omega)
  have h5 : IntKind.i64.wrap (j : Int) = (j : Int) := wrapI (by omega) (by omega)
  have e : ((i + j : Nat) : Int) = (i : Int) + (j : Int) := by omega
  rw [hi, hj, e]
  clear hi hj e
  unfold cornerV
  go_enter Tryz.func46, Tryz.ntmps46
  go_wp2
  go_ret
  exact ⟨rfl, hBa⟩

end Go.Proofs.YtbmojlnkjeapkaaGreatDoor
