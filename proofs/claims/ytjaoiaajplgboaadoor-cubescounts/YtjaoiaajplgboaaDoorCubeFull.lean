/- What isFull answers, and the reference's Full; nothing that was there is written. -/
import Derived.Test.YtjaoiaajplgboaaDoorCubeImg
namespace Go.Proofs.YtjaoiaajplgboaaDoor
open Go.RowKit Go.Sort

/-- An image's row, and a byte of it. -/
theorem row_of {m : List (List UInt8)} (h : Img m) {j : Nat} (hj : j < m.length) : (m[j]?.getD []).length = wide m := by
  rw [List.getElem?_eq_getElem hj, Option.getD_some]
  exact h.even _ (List.getElem_mem hj)

theorem byte_eq {m : List (List UInt8)} {j k : Nat} {s : ByteArray} (hs : (⟨(m[j]?.getD []).toArray⟩ : ByteArray) = s) (hk : k < s.size) : s[k]'hk = byteOf m ((k : Int), (j : Int)) := by
  rw [text_byte hs hk]; rfl

theorem two_cells (W : World) (x y : Value) (t : TypeId) : (W.alloc (.cells #[x, y] t)).cell? ⟨W.heap.size, 0, none⟩ = some x ∧ (W.alloc (.cells #[x, y] t)).cell? ⟨W.heap.size, 1, none⟩ = some y := by
  constructor <;> simp

/-- A struct of two that the call has laid, and what is read of the image: the same in each later world. -/
theorem two_later {w W W' : World} {x y : Value} {t : TypeId} (hW : W = (w.alloc (.cells #[x, y] t)).drew) (hB : Below W.heap.size W W') : W'.cell? ⟨w.heap.size, 0, none⟩ = some x ∧ W'.cell? ⟨w.heap.size, 1, none⟩ = some y ∧ Below w.heap.size w W' := by
  subst hW
  have h := two_cells w x y t
  have h0 : Below w.heap.size w (w.alloc (.cells #[x, y] t)).drew := ((Below.refl _ w).alloc (Nat.le_refl _) _).drew
  refine ⟨(hB.cell (p := ⟨w.heap.size, 0, none⟩) ?_).trans h.1, (hB.cell (p := ⟨w.heap.size, 1, none⟩) ?_).trans h.2, h0.trans (hB.mono ?_)⟩ <;> simp

set_option maxRecDepth 100000 in
set_option maxHeartbeats 4000000 in
theorem full_ (vm : Value) (m : List (List UInt8)) (w : World) (hm : Strs w vm m) (hi : Img m) (x y : Int) (hx : -1000000 ≤ x ∧ x ≤ 1000000) (hy : -1000000 ≤ y ∧ y ≤ 1000000) :
    Calls Tryd.prog 38 #[vm, cornerV (x, y)] w fun e w' => e = .returned (.bool (fullAt m (wide m) m.length x y)) ∧ Below w.heap.size w w' := by
  have hBa : Below w.heap.size w (w.alloc (.cells #[.int .i64 x, .int .i64 y] 65)) := (Below.refl _ w).alloc (Nat.le_refl _) _
  have hin : ∀ W, Below w.heap.size w W → _ := fun W hW => inside_ vm m W (hm.below hW) hi x y hx hy
  have HM : Hid (Strs w vm m) := hm
  obtain ⟨a, ca, rfl, -, ha⟩ := hm.open_
  clear hm
  by_cases hI : InSq (wide m) m.length (x, y)
  · have hd : decide (InSq (wide m) m.length (x, y)) = true := decide_eq_true hI
    have hf : fullAt m (wide m) m.length x y = (byteOf m (x, y) == 35) := by unfold fullAt; rw [hd]; rfl
    rw [hd] at hin
    rw [hf]
    obtain ⟨h1, h2, h3, h4⟩ := hI
    obtain ⟨i, rfl⟩ : ∃ i : Nat, x = (i : Int) := ⟨x.toNat, by simp only at h1; omega⟩
    obtain ⟨j, rfl⟩ : ∃ j : Nat, y = (j : Int) := ⟨y.toNat, by simp only at h3; omega⟩
    simp only at h1 h2 h3 h4
    have hj : j < m.length := by omega
    obtain ⟨b, o, rfl, -, hb, c⟩ := ha (by omega)
    have cj := c j hj
    obtain ⟨s, hs⟩ : ∃ s, (⟨(m[j]?.getD []).toArray⟩ : ByteArray) = s := ⟨_, rfl⟩
    have hsz : s.size = wide m := (text_size hs).trans (row_of hi hj)
    rw [show encStr (m[j]?.getD []) = .string ⟨(m[j]?.getD []).toArray⟩ from rfl, hs] at cj
    have his : i < s.size := by omega
    rw [← byte_eq hs his]
    obtain ⟨q, hq⟩ : ∃ q, s[i]'his = q := ⟨_, rfl⟩
    rw [hq]
    have hq8 : q.toNat < 256 := q.toNat_lt
    have hqb : (q == 35) = ((q.toNat : Int) == 35) := by
      rw [Bool.eq_iff_iff, beq_iff_eq, beq_iff_eq]
      constructor
      · rintro rfl; rfl
      · intro e; exact UInt8.toNat_inj.1 (by have : (35 : UInt8).toNat = 35 := rfl; omega)
    rw [hqb]
    have HCJ : Hid (w.cell? ⟨b, o + j, none⟩ = some (.string s)) := cj
    have cja : (w.alloc (.cells #[.int .i64 (i : Int), .int .i64 (j : Int)] 65)).cell? ⟨b, o + j, none⟩ = some (.string s) := (hBa.cell (p := ⟨b, o + j, none⟩) hb).trans cj
    have cjd : (w.alloc (.cells #[.int .i64 (i : Int), .int .i64 (j : Int)] 65)).drew.cell? ⟨b, o + j, none⟩ = some (.string s) := cja
    clear hqb hd hf ha c hs hsz cj
    unfold cornerV at hin ⊢
    go_enter Tryd.func38, Tryd.ntmps38
    go_wp2_with fail
    go_region_held3 (fun W => W.cell? ⟨w.heap.size, 0, none⟩ = some (.int .i64 (i : Int)) ∧ W.cell? ⟨w.heap.size, 1, none⟩ = some (.int .i64 (j : Int)) ∧ W.cell? ⟨b, o + j, none⟩ = some (.string s)) (go_keep) ((go_at_call 45; refine (hin _ (hBa.drew)).mono ?_; rintro e w2 ⟨rfl, hB2⟩; obtain ⟨k1, k2, k3⟩ := two_later rfl hB2; have k4 : w2.cell? ⟨b, o + j, none⟩ = some (.string s) := (k3.cell (p := ⟨b, o + j, none⟩) hb).trans HCJ.out))
    all_goals go_wp2
    all_goals go_ret
    all_goals exact ⟨rfl, k3⟩
  · have hd : decide (InSq (wide m) m.length (x, y)) = false := decide_eq_false hI
    have hf : fullAt m (wide m) m.length x y = false := by unfold fullAt; rw [hd]; rfl
    rw [hd] at hin
    rw [hf]
    clear hd hf hI ha
    unfold cornerV at hin ⊢
    go_enter Tryd.func38, Tryd.ntmps38
    go_wp2_with fail
    first
      | (go_region_with (go_at_call 45; refine (hin _ (hBa.drew)).mono ?_; rintro e w2 ⟨rfl, hB2⟩; obtain ⟨k1, k2, k3⟩ := two_later rfl hB2))
      | fail
    all_goals go_wp2
    all_goals go_ret
    all_goals exact ⟨rfl, k3⟩

end Go.Proofs.YtjaoiaajplgboaaDoor
