/- Images as they read; what width, inside, isFull, plus answer; nothing that was there is written. What isFull answers, and the reference's Full; nothing that was there is written. What makes an image bad, and what ImageError answers; no program is spoken of in the first part; nothing is written. -/
import Derived.Test.YtbmojlnkjeapkaaGreatDoorCubeMath2
import Derived.Test.YtbmojlnkjeapkaaGreatDoorBase
import Derived.Deep.RegionWith
import Derived.Deep.RegionHeld3
namespace Go.Proofs.YtbmojlnkjeapkaaGreatDoor
open Go.RowKit Go.Sort

/-- How wide an image is. -/
def wide (m : List (List UInt8)) : Nat := (m[0]?.getD []).length

/-- An image that can be gone through: no side is great, each row is as wide as the first. -/
structure Img (m : List (List UInt8)) : Prop where
  rows : m.length ≤ 1000
  cols : wide m ≤ 1000
  even : ∀ r ∈ m, r.length = wide m

/-- A corner's value. -/
def cornerV (a : Sq) : Value := .agg #[.int .i64 a.1, .int .i64 a.2]

theorem text_size {b : List UInt8} {s : ByteArray} (h : (⟨b.toArray⟩ : ByteArray) = s) : s.size = b.length := by subst h; simp [ByteArray.size]
theorem text_byte {b : List UInt8} {s : ByteArray} (h : (⟨b.toArray⟩ : ByteArray) = s) {i : Nat} (hi : i < s.size) : s[i]'hi = b[i]?.getD 0 := by
  subst h
  have hb : i < b.length := by simpa [ByteArray.size] using hi
  rw [List.getElem?_eq_getElem hb]
  rfl

theorem wrapI {x : Int} (h0 : -10000000 ≤ x) (h1 : x ≤ 10000000) : IntKind.i64.wrap x = x := by rw [IntKind.wrap_i64]; omega

set_option maxRecDepth 100000 in
theorem width_ (vm : Value) (m : List (List UInt8)) (w : World) (hm : Strs w vm m) (hl : m.length ≤ 1000) :
    Calls Tryz.prog 22 #[vm] w fun e w' => e = .returned (.int .i64 (wide m : Int)) ∧ w' = w := by
  obtain ⟨a, ca, rfl, -, ha⟩ := hm.open_
  clear hm
  by_cases h0 : m.length = 0
  · have hw : wide m = 0 := by unfold wide; rw [List.length_eq_zero_iff.1 h0]; rfl
    rw [hw, h0]
    clear ha h0 hw hl
    go_enter Tryz.func22, Tryz.ntmps22
    go_wp2
    go_ret
    exact ⟨rfl, rfl⟩
  · obtain ⟨b, o, rfl, -, -, c⟩ := ha (by omega)
    have c0 := c 0 (by omega)
    obtain ⟨s, hs⟩ : ∃ s, (⟨(m[0]?.getD []).toArray⟩ : ByteArray) = s := ⟨_, rfl⟩
    have hsz : s.size = wide m := text_size hs
    rw [show encStr (m[0]?.getD []) = .string ⟨(m[0]?.getD []).toArray⟩ from rfl, hs, Nat.add_zero] at c0
    rw [← hsz]
    clear c ha hs hsz
    go_enter Tryz.func22, Tryz.ntmps22
    go_wp2
    go_ret
    exact ⟨rfl, rfl⟩

set_option maxRecDepth 100000 in
theorem plus_ (x y dx dy : Int) (hx : -1000000 ≤ x ∧ x ≤ 1000000) (hy : -1000000 ≤ y ∧ y ≤ 1000000) (hdx : -1 ≤ dx ∧ dx ≤ 1) (hdy : -1 ≤ dy ∧ dy ≤ 1) (w : World) :
    Calls Tryz.prog 45 #[cornerV (x, y), .int .i64 dx, .int .i64 dy] w fun e w' => e = .returned (cornerV (x + dx, y + dy)) ∧ Below w.heap.size w w' := by
  have h1 : IntKind.i64.wrap (x + dx) = x + dx := wrapI (by omega) (by omega)
  have h2 : IntKind.i64.wrap (y + dy) = y + dy := wrapI (by omega) (by omega)
  have hBa : Below w.heap.size w (w.alloc (.cells #[.int .i64 x, .int .i64 y] 59)) := (Below.refl _ w).alloc (Nat.le_refl _) _
  unfold cornerV
  go_enter Tryz.func45, Tryz.ntmps45
  go_wp2
  refine bodyPost_ret (v := .agg #[.int .i64 (x + dx), .int .i64 (y + dy)]) ?_ rfl ⟨rfl, hBa.alloc hBa.size _⟩
  simp [results, Tryz.f45, go_sem]

set_option maxRecDepth 100000 in
set_option maxHeartbeats 4000000 in
theorem inside_ (vm : Value) (m : List (List UInt8)) (w : World) (hm : Strs w vm m) (hi : Img m) (x y : Int) (_hx : -1000000 ≤ x ∧ x ≤ 1000000) (_hy : -1000000 ≤ y ∧ y ≤ 1000000) :
    Calls Tryz.prog 66 #[vm, cornerV (x, y)] w fun e w' => e = .returned (.bool (decide (InSq (wide m) m.length (x, y)))) ∧ Below w.heap.size w w' := by
  have hBa : Below w.heap.size w (w.alloc (.cells #[.int .i64 x, .int .i64 y] 59)) := (Below.refl _ w).alloc (Nat.le_refl _) _
  have hwd : ∀ W, Below w.heap.size w W → _ := fun W hW => width_ vm m W (hm.below hW) hi.rows
  have hcols := hi.cols
  have hrows := hi.rows
  obtain ⟨a, ca, rfl, -, -⟩ := hm.open_
  clear hm hi
  unfold cornerV
  by_cases h1 : 0 ≤ y
  · by_cases h2 : y < (m.length : Int)
    · by_cases h3 : 0 ≤ x
      · by_cases h4 : x < (wide m : Int)
        · have hd : decide (InSq (wide m) m.length (x, y)) = true := decide_eq_true ⟨h3, h4, h1, h2⟩
          rw [hd]
          go_enter Tryz.func66, Tryz.ntmps66
          go_wp2_with fail
          go_region_with (go_at_call 22; refine (hwd _ (hBa.drew)).mono ?_; rintro e w2 ⟨rfl, rfl⟩)
          all_goals go_wp2
          all_goals go_ret
          all_goals exact ⟨rfl, hBa.drew⟩
        · have hd : decide (InSq (wide m) m.length (x, y)) = false := decide_eq_false fun h => h4 h.2.1
          have h4b : decide (x < (wide m : Int)) = false := decide_eq_false h4
          rw [hd]
          go_enter Tryz.func66, Tryz.ntmps66
          go_wp2_with fail
          go_region_with (go_at_call 22; refine (hwd _ (hBa.drew)).mono ?_; rintro e w2 ⟨rfl, rfl⟩)
          all_goals go_wp2
          all_goals go_ret
          all_goals exact ⟨rfl, hBa.drew⟩
      · have hd : decide (InSq (wide m) m.length (x, y)) = false := decide_eq_false fun h => h3 h.1
        have h3b : decide (0 ≤ x) = false := decide_eq_false h3
        rw [hd]
        clear hwd
        go_enter Tryz.func66, Tryz.ntmps66
        go_wp2_with fail
        go_region
        all_goals go_wp2
        all_goals go_ret
        all_goals exact ⟨rfl, hBa.drew⟩
    · have hd : decide (InSq (wide m) m.length (x, y)) = false := decide_eq_false fun h => h2 h.2.2.2
      have h2b : decide (y < (m.length : Int)) = false := decide_eq_false h2
      rw [hd]
      clear hwd
      go_enter Tryz.func66, Tryz.ntmps66
      go_wp2_with fail
      go_region
      all_goals go_wp2
      all_goals go_ret
      all_goals exact ⟨rfl, hBa.drew⟩
  · have hd : decide (InSq (wide m) m.length (x, y)) = false := decide_eq_false fun h => h1 h.2.2.1
    have h1b : decide (0 ≤ y) = false := decide_eq_false h1
    rw [hd]
    clear hwd
    go_enter Tryz.func66, Tryz.ntmps66
    go_wp2_with fail
    go_region
    all_goals go_wp2
    all_goals go_ret
    all_goals exact ⟨rfl, hBa.drew⟩

end Go.Proofs.YtbmojlnkjeapkaaGreatDoor

namespace Go.Proofs.YtbmojlnkjeapkaaGreatDoor
open Go.RowKit Go.Sort

/-- An image's row, and a byte of it. -/
theorem row_of {m : List (List UInt8)} (h : Img m) {j : Nat} (hj : j < m.length) : (m[j]?.getD []).length = wide m := by
  rw [List.getElem?_eq_getElem hj, Option.getD_some]
  exact h.even _ (List.getElem_mem hj)

theorem byte_eq {m : List (List UInt8)} {j k : Nat} {s : ByteArray} (hs : (⟨(m[j]?.getD []).toArray⟩ : ByteArray) = s) (hk : k < s.size) : s[k]'hk = byteOf m ((k : Int), (j : Int)) := by
  rw [text_byte hs hk]; rfl

theorem two_cells (W : World) (x y : Value) (t : TypeId) : (W.alloc (.cells #[x, y] t)).cell? ⟨W.heap.size, 0, none⟩ = some x ∧ (W.alloc (.cells #[x, y] t)).cell? ⟨W.heap.size, 1, none⟩ = some y := by
  constructor <;> simp

/-- A struct of two that the call has laid, and what is read of the image: the same in each later world. -/
theorem two_later {w W W' : World} {x y : Value} {t : TypeId} (hW : W = (w.alloc (.cells #[x, y] t)).drew) (hB : Below W.heap.size W W') : W'.cell? ⟨w.heap.size, 0, none⟩ = some x ∧ W'.cell? ⟨w.heap.size, 1, none⟩ = some y ∧ Below w.heap.size w W' := by
  subst hW
  have h := two_cells w x y t
  have h0 : Below w.heap.size w (w.alloc (.cells #[x, y] t)).drew := ((Below.refl _ w).alloc (Nat.le_refl _) _).drew
  refine ⟨(hB.cell (p := ⟨w.heap.size, 0, none⟩) ?_).trans h.1, (hB.cell (p := ⟨w.heap.size, 1, none⟩) ?_).trans h.2, h0.trans (hB.mono ?_)⟩ <;> simp

set_option maxRecDepth 100000 in
set_option maxHeartbeats 4000000 in
theorem full_ (vm : Value) (m : List (List UInt8)) (w : World) (hm : Strs w vm m) (hi : Img m) (x y : Int) (hx : -1000000 ≤ x ∧ x ≤ 1000000) (hy : -1000000 ≤ y ∧ y ≤ 1000000) :
    Calls Tryz.prog 49 #[vm, cornerV (x, y)] w fun e w' => e = .returned (.bool (fullAt m (wide m) m.length x y)) ∧ Below w.heap.size w w' := by
  have hBa : Below w.heap.size w (w.alloc (.cells #[.int .i64 x, .int .i64 y] 59)) := (Below.refl _ w).alloc (Nat.le_refl _) _
  have hin : ∀ W, Below w.heap.size w W → _ := fun W hW => inside_ vm m W (hm.below hW) hi x y hx hy
  have HM : Hid (Strs w vm m) := hm
  obtain ⟨a, ca, rfl, -, ha⟩ := hm.open_
  clear hm
  by_cases hI : InSq (wide m) m.length (x, y)
  · have hd : decide (InSq (wide m) m.length (x, y)) = true := decide_eq_true hI
    have hf : fullAt m (wide m) m.length x y = (byteOf m (x, y) == 35) := by unfold fullAt; rw [hd]; rfl
    rw [hd] at hin
    rw [hf]
    obtain ⟨h1, h2, h3, h4⟩ := hI
    obtain ⟨i, rfl⟩ : ∃ i : Nat, x = (i : Int) := ⟨x.toNat, by simp only at h1; omega⟩
    obtain ⟨j, rfl⟩ : ∃ j : Nat, y = (j : Int) := ⟨y.toNat, by simp only at h3; omega⟩
    simp only at h1 h2 h3 h4
    have hj : j < m.length := by omega
    obtain ⟨b, o, rfl, -, hb, c⟩ := ha (by omega)
    have cj := c j hj
    obtain ⟨s, hs⟩ : ∃ s, (⟨(m[j]?.getD []).toArray⟩ : ByteArray) = s := ⟨_, rfl⟩
    have hsz : s.size = wide m := (text_size hs).trans (row_of hi hj)
    rw [show encStr (m[j]?.getD []) = .string ⟨(m[j]?.getD []).toArray⟩ from rfl, hs] at cj
    have his : i < s.size := by omega
    rw [← byte_eq hs his]
    obtain ⟨q, hq⟩ : ∃ q, s[i]'his = q := ⟨_, rfl⟩
    rw [hq]
    have hq8 : q.toNat < 256 := q.toNat_lt
    have hqb : (q == 35) = ((q.toNat : Int) == 35) := by
      rw [Bool.eq_iff_iff, beq_iff_eq, beq_iff_eq]
      constructor
      · rintro rfl; rfl
      · intro e; exact UInt8.toNat_inj.1 (by have : (35 : UInt8).toNat = 35 := rfl; omega)
    rw [hqb]
    have HCJ : Hid (w.cell? ⟨b, o + j, none⟩ = some (.string s)) := cj
    have cja : (w.alloc (.cells #[.int .i64 (i : Int), .int .i64 (j : Int)] 59)).cell? ⟨b, o + j, none⟩ = some (.string s) := (hBa.cell (p := ⟨b, o + j, none⟩) hb).trans cj
    have cjd : (w.alloc (.cells #[.int .i64 (i : Int), .int .i64 (j : Int)] 59)).drew.cell? ⟨b, o + j, none⟩ = some (.string s) := cja
    clear hqb hd hf ha c hs hsz cj
    unfold cornerV at hin ⊢
    go_enter Tryz.func49, Tryz.ntmps49
    go_wp2_with fail
    go_region_held3 (fun W => W.cell? ⟨w.heap.size, 0, none⟩ = some (.int .i64 (i : Int)) ∧ W.cell? ⟨w.heap.size, 1, none⟩ = some (.int .i64 (j : Int)) ∧ W.cell? ⟨b, o + j, none⟩ = some (.string s)) (go_keep) ((go_at_call 66; refine (hin _ (hBa.drew)).mono ?_; rintro e w2 ⟨rfl, hB2⟩; obtain ⟨k1, k2, k3⟩ := two_later rfl hB2; have k4 : w2.cell? ⟨b, o + j, none⟩ = some (.string s) := (k3.cell (p := ⟨b, o + j, none⟩) hb).trans HCJ.out))
    all_goals go_wp2
    all_goals go_ret
    all_goals exact ⟨rfl, k3⟩
  · have hd : decide (InSq (wide m) m.length (x, y)) = false := decide_eq_false hI
    have hf : fullAt m (wide m) m.length x y = false := by unfold fullAt; rw [hd]; rfl
    rw [hd] at hin
    rw [hf]
    clear hd hf hI ha
    unfold cornerV at hin ⊢
    go_enter Tryz.func49, Tryz.ntmps49
    go_wp2_with fail
    first
      | (go_region_with (go_at_call 66; refine (hin _ (hBa.drew)).mono ?_; rintro e w2 ⟨rfl, hB2⟩; obtain ⟨k1, k2, k3⟩ := two_later rfl hB2))
      | fail
    all_goals go_wp2
    all_goals go_ret
    all_goals exact ⟨rfl, k3⟩

end Go.Proofs.YtbmojlnkjeapkaaGreatDoor

namespace Go.Proofs.YtbmojlnkjeapkaaGreatDoor
open Go.RowKit Go.Sort

/-- Too many rows, or too long a row; a row that is not as long as the first; another byte. -/
def LargeI (m : List (List UInt8)) : Prop := 24 < m.length ∨ ∃ r ∈ m, 24 < r.length
def UnevenI (m : List (List UInt8)) : Prop := ∃ r ∈ m, r.length ≠ wide m
def OtherI (m : List (List UInt8)) : Prop := ∃ r ∈ m, ∃ b ∈ r, b ≠ 35 ∧ b ≠ 46

/-- Which error an image is (as the errors are numbered), or none. -/
def BadImg (m : List (List UInt8)) (i : Nat) : Prop := (LargeI m ∧ i = 1) ∨ (¬ LargeI m ∧ UnevenI m ∧ i = 2) ∨ (¬ LargeI m ∧ ¬ UnevenI m ∧ OtherI m ∧ i = 0)
def OkImg (m : List (List UInt8)) : Prop := ¬ LargeI m ∧ ¬ UnevenI m ∧ ¬ OtherI m

theorem OkImg.img {m : List (List UInt8)} (h : OkImg m) : Img m ∧ m.length ≤ 24 ∧ wide m ≤ 24 ∧ ∀ r ∈ m, ∀ b ∈ r, b = 35 ∨ b = 46 := by
  obtain ⟨h1, h2, h3⟩ := h
  have a1 : m.length ≤ 24 := Nat.le_of_not_lt fun h => h1 (.inl h)
  have a2 : ∀ r ∈ m, r.length ≤ 24 := fun r hr => Nat.le_of_not_lt fun h => h1 (.inr ⟨r, hr, h⟩)
  have a3 : ∀ r ∈ m, r.length = wide m := fun r hr => Classical.byContradiction fun h => h2 ⟨r, hr, h⟩
  have a4 : wide m ≤ 24 := by
    cases m with
    | nil => simp [wide]
    | cons r m => exact a2 r (by simp)
  refine ⟨⟨by omega, by omega, a3⟩, a1, a4, fun r hr b hb => ?_⟩
  by_cases e : b = 35
  · exact .inl e
  · exact .inr (Classical.byContradiction fun e2 => h3 ⟨r, hr, b, hb, e, e2⟩)

theorem bad_lt {m : List (List UInt8)} {i : Nat} (h : BadImg m i) : i < 8 := by
  rcases h with ⟨_, rfl⟩ | ⟨_, _, rfl⟩ | ⟨_, _, _, rfl⟩ <;> omega

/-- The first rows: is one of them too long, of another length, with another byte? -/
def LongTo (m : List (List UInt8)) (k : Nat) : Prop := ∃ r ∈ m.take k, 24 < r.length
def UnevenTo (m : List (List UInt8)) (k : Nat) : Prop := ∃ r ∈ m.take k, r.length ≠ wide m
def OtherTo (m : List (List UInt8)) (k : Nat) : Prop := ∃ r ∈ m.take k, ∃ b ∈ r, b ≠ 35 ∧ b ≠ 46
def OtherIn (r : List UInt8) (k : Nat) : Prop := ∃ b ∈ r.take k, b ≠ 35 ∧ b ≠ 46

theorem ex_take {α : Type} {P : α → Prop} {l : List α} {k : Nat} (hk : k < l.length) : (∃ r ∈ l.take (k + 1), P r) ↔ (∃ r ∈ l.take k, P r) ∨ P l[k] := by
  rw [List.take_add_one, List.getElem?_eq_getElem hk]
  constructor
  · rintro ⟨r, hr, h⟩
    rcases List.mem_append.1 hr with hr | hr
    · exact .inl ⟨r, hr, h⟩
    · simp at hr; subst hr; exact .inr h
  · rintro (⟨r, hr, h⟩ | h)
    · exact ⟨r, List.mem_append_left _ hr, h⟩
    · exact ⟨_, List.mem_append_right _ (by simp), h⟩

end Go.Proofs.YtbmojlnkjeapkaaGreatDoor
