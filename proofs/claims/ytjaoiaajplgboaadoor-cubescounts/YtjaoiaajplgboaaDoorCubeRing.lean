/- What coded answers of an image's error, what PiecesOf and HolesOf answer, and that ring answers true. -/
import Derived.Test.YtjaoiaajplgboaaDoorCubeRim
import Derived.Test.YtjaoiaajplgboaaDoorCubeRefPieces
import Derived.Test.YtjaoiaajplgboaaDoorCubePicture
import Derived.Test.YtjaoiaajplgboaaDoorCubeLittle
import Derived.Test.YtjaoiaajplgboaaDoorCubeCells
namespace Go.Proofs.YtjaoiaajplgboaaDoor
open Go.RowKit Go.Sort

theorem ok_or_bad (m : List (List UInt8)) : OkImg m ∨ ∃ i, BadImg m i := by
  by_cases h1 : LargeI m
  · exact .inr ⟨1, .inl ⟨h1, rfl⟩⟩
  · by_cases h2 : UnevenI m
    · exact .inr ⟨2, .inr (.inl ⟨h1, h2, rfl⟩)⟩
    · by_cases h3 : OtherI m
      · exact .inr ⟨0, .inr (.inr ⟨h1, h2, h3, rfl⟩)⟩
      · exact .inl ⟨h1, h2, h3⟩

theorem ok_not_bad {m : List (List UInt8)} {i : Nat} (h : OkImg m) (hb : BadImg m i) : False := by
  rcases hb with ⟨h1, _⟩ | ⟨_, h1, _⟩ | ⟨_, _, h1, _⟩
  · exact h.1 h1
  · exact h.2.1 h1
  · exact h.2.2 h1

theorem bad_one {m : List (List UInt8)} {i j : Nat} (h : BadImg m i) (k : BadImg m j) : i = j := by
  rcases h with ⟨h1, rfl⟩ | ⟨h1, h2, rfl⟩ | ⟨h1, h2, h3, rfl⟩ <;> rcases k with ⟨k1, rfl⟩ | ⟨k1, k2, rfl⟩ | ⟨k1, k2, k3, rfl⟩ <;> first | rfl | contradiction

theorem errN_ok {m : List (List UInt8)} (h : OkImg m) : errN m = 0 := by
  unfold errN; rw [if_neg h.1, if_neg h.2.1, if_neg h.2.2]
theorem errN_bad {m : List (List UInt8)} {i : Nat} (h : BadImg m i) : errN m = (i : Int) + 1 := by
  unfold errN
  rcases h with ⟨h1, rfl⟩ | ⟨h1, h2, rfl⟩ | ⟨h1, h2, h3, rfl⟩
  · rw [if_pos h1]; rfl
  · rw [if_neg h1, if_pos h2]; rfl
  · rw [if_neg h1, if_neg h2, if_pos h3]; rfl

theorem AnswerI.ok {a : Nat → Addr} {m : List (List UInt8)} {bad : Value → Value} {good : Value} {w w' : World} {e : Ending} (h : AnswerI a m bad good w e w') (hok : OkImg m) : e = .returned good ∧ Below w.heap.size w w' := by
  rcases h.2 with ⟨i, hb, _⟩ | h2
  · exact (ok_not_bad hok hb).elim
  · exact ⟨h2.2, h.1⟩
theorem AnswerI.bad {a : Nat → Addr} {m : List (List UInt8)} {bad : Value → Value} {good : Value} {w w' : World} {e : Ending} (h : AnswerI a m bad good w e w') {i : Nat} (hb : BadImg m i) : e = .returned (bad (errV (a i))) ∧ Below w.heap.size w w' := by
  rcases h.2 with ⟨j, hj, he⟩ | h2
  · rw [bad_one hb hj]; exact ⟨he, h.1⟩
  · exact (ok_not_bad h2.1 hb).elim

theorem coded_ok (w : World) : Calls Tryd.prog 7 #[.nilIface, .int .i64 0] w fun e w' => e = .returned (.bool true) ∧ Below w.heap.size w w' :=
  (coded_nil 0 w).mono fun e w' h => ⟨by rw [h.1, decide_eq_true rfl], by rw [h.2]; exact Below.refl _ _⟩
theorem coded_bad {a : Nat → Addr} {s : Nat → ByteArray} (w : World) (hE : Errs a s w) {i : Nat} (hi : i < 8) : Calls Tryd.prog 7 #[errV (a i), .int .i64 ((i : Int) + 1)] w fun e w' => e = .returned (.bool true) ∧ Below w.heap.size w w' :=
  (coded_es w hE i hi ((i : Int) + 1)).mono fun e w' h => ⟨by rw [h.1, decide_eq_true rfl], h.2⟩

theorem cnt_all (m : List (List UInt8)) (c : Bool) (l : List Sq) : cntN (Counts m c false) l = l.length := by
  unfold cntN
  rw [List.countP_eq_length]
  intro a _
  simp [Counts]
open Classical in
theorem cnt_inner (m : List (List UInt8)) (l : List Sq) : cntN (Counts m false true) l = l.countP fun s => decide (Inner m (wide m) m.length false s) := by
  unfold cntN
  refine List.countP_congr fun a _ => ?_
  simp [Counts]

set_option maxRecDepth 100000 in
theorem pieces_of (vm : Value) (m : List (List UInt8)) (w : World) (hm : Strs w vm m) (hok : OkImg m) :
    Calls Tryd.prog 15 #[vm] w fun e w' => e = .returned (.int .i64 (piecesN m (wide m) m.length)) ∧ Below w.heap.size w w' := by
  have hp := ref_pieces vm m w hm hok true true false
  clear hm
  go_enter Tryd.func15, Tryd.ntmps15
  go_wp2_with fail
  refine hp.mono ?_
  rintro e w1 ⟨N, rfl, hN, hB⟩
  have HN : Hid (N = piecesN m (wide m) m.length) := by show N = _; rw [hN, cnt_all]; rfl
  have HB : Hid (Below w.heap.size w w1) := hB
  clear hp hN hB
  go_wp2_with fail
  go_ret
  exact ⟨by rw [← HN.out]; rfl, HB.out⟩

set_option maxRecDepth 100000 in
theorem holes_of (vm : Value) (m : List (List UInt8)) (w : World) (hm : Strs w vm m) (hok : OkImg m) :
    Calls Tryd.prog 16 #[vm] w fun e w' => e = .returned (.int .i64 (holesN m (wide m) m.length)) ∧ Below w.heap.size w w' := by
  have hp := ref_pieces vm m w hm hok false false true
  clear hm
  go_enter Tryd.func16, Tryd.ntmps16
  go_wp2_with fail
  refine hp.mono ?_
  rintro e w1 ⟨N, rfl, hN, hB⟩
  have HN : Hid (N = holesN m (wide m) m.length) := by show N = _; rw [hN, cnt_inner]; rfl
  have HB : Hid (Below w.heap.size w w1) := hB
  clear hp hN hB
  go_wp2_with fail
  go_ret
  exact ⟨by rw [← HN.out]; rfl, HB.out⟩

theorem ring_ok : OkImg ringM := by
  refine ⟨?_, ?_, ?_⟩
  · unfold LargeI; decide
  · unfold UnevenI; decide
  · unfold OtherI; decide
theorem ring_euler : eulerI ringM = 0 := by
  show (cornersN (fullAt ringM 3 3) (sqTo 4 4) : Int) - (edgesN (fullAt ringM 3 3) (sqTo 4 4) : Int) + (squaresN (fullAt ringM 3 3) (sqTo 4 4) : Int) = 0
  rw [ring_counts.1, ring_counts.2.1, ring_counts.2.2]; rfl
theorem ring_strs (w : World) : Strs (w.alloc (.cells #[.string ⟨#[35, 35, 35]⟩, .string ⟨#[35, 46, 35]⟩, .string ⟨#[35, 35, 35]⟩] 9)) (.slice (some ⟨w.heap.size, 0, none⟩) 3 3) ringM := by
  refine ⟨_, _, rfl, ⟨Nat.le_refl _, fun h => by cases h⟩, fun _ => ⟨w.heap.size, 0, rfl, trivial, fun k u hu => ?_⟩⟩
  rw [Nat.zero_add]
  have := (Go.MapKept.heap_alloc w (.cells #[.string ⟨#[35, 35, 35]⟩, .string ⟨#[35, 46, 35]⟩, .string ⟨#[35, 35, 35]⟩] 9)).1
  simp only [World.cell?, this]
  simpa [ringM, encStr] using hu

set_option maxRecDepth 100000 in
set_option maxHeartbeats 1000000 in
theorem ring_ {a : Nat → Addr} {s : Nat → ByteArray} (w : World) (hE : Errs a s w) :
    Calls Tryd.prog 4 #[] w fun e w' => e = .returned (.bool true) ∧ Below w.heap.size w w' := by
  have hB0 : Below w.heap.size w (w.alloc (.cells #[.string ⟨#[35, 35, 35]⟩, .string ⟨#[35, 46, 35]⟩, .string ⟨#[35, 35, 35]⟩] 9)) := (Below.refl _ w).alloc (Nat.le_refl _) _
  have hs := ring_strs w
  go_enter Tryd.func4, Tryd.ntmps4
  go_upto_region 2 with fail
  obtain ⟨W1, hW1⟩ : ∃ W1, w.alloc (.cells #[.string ⟨#[35, 35, 35]⟩, .string ⟨#[35, 46, 35]⟩, .string ⟨#[35, 35, 35]⟩] 9) = W1 := ⟨_, rfl⟩
  rw [hW1] at hB0 hs
  rw [hW1]
  have HC : Hid (Below w.heap.size w W1 ∧ Below W1.heap.size W1 W1) := ⟨hB0, Below.refl _ _⟩
  have hs1 : W1.heap.size ≤ W1.heap.size := Nat.le_refl _
  have hEU : ∀ V, Below w.heap.size w V ∧ Below W1.heap.size W1 V → Calls Tryd.prog 11 #[.slice (some ⟨w.heap.size, 0, none⟩) 3 3] V fun e w' => e = .returned (.tuple #[.int .i64 0, .nilIface]) ∧ Below V.heap.size V w' := fun V hV =>
    (euler_i (.slice (some ⟨w.heap.size, 0, none⟩) 3 3) ringM V (hE.below hV.1) (hs.below hV.2) (by decide)).mono fun e w' h => by have := h.ok ring_ok; rw [ring_euler] at this; exact this
  have hPI : ∀ V, Below w.heap.size w V ∧ Below W1.heap.size W1 V → Calls Tryd.prog 12 #[.slice (some ⟨w.heap.size, 0, none⟩) 3 3] V fun e w' => e = .returned (.tuple #[.int .i64 1, .nilIface]) ∧ Below V.heap.size V w' := fun V hV =>
    (pieces_i (.slice (some ⟨w.heap.size, 0, none⟩) 3 3) ringM V (hE.below hV.1) (hs.below hV.2) (by decide)).mono fun e w' h => by have := h.ok ring_ok; rw [show piecesN ringM (wide ringM) ringM.length = 1 from ring_pieces] at this; exact this
  have hHO : ∀ V, Below w.heap.size w V ∧ Below W1.heap.size W1 V → Calls Tryd.prog 13 #[.slice (some ⟨w.heap.size, 0, none⟩) 3 3] V fun e w' => e = .returned (.tuple #[.int .i64 1, .nilIface]) ∧ Below V.heap.size V w' := fun V hV =>
    (holes_i (.slice (some ⟨w.heap.size, 0, none⟩) 3 3) ringM V (hE.below hV.1) (hs.below hV.2) (by decide)).mono fun e w' h => by have := h.ok ring_ok; rw [show holesN ringM (wide ringM) ringM.length = 1 from ring_holes] at this; exact this
  clear hW1 hs hB0 hE hs1
  go_wp2_with (first
    | (go_at_call 11; refine (hEU _ HC.out).mono ?_; rintro e V ⟨rfl, hV⟩; replace HC : Hid (Below w.heap.size w V ∧ Below W1.heap.size W1 V) := ⟨HC.out.1.trans (hV.mono HC.out.1.size), HC.out.2.trans (hV.mono HC.out.2.size)⟩; clear hV)
    | (go_at_call 12; refine (hPI _ HC.out).mono ?_; rintro e V ⟨rfl, hV⟩; replace HC : Hid (Below w.heap.size w V ∧ Below W1.heap.size W1 V) := ⟨HC.out.1.trans (hV.mono HC.out.1.size), HC.out.2.trans (hV.mono HC.out.2.size)⟩; clear hV)
    | (go_at_call 13; refine (hHO _ HC.out).mono ?_; rintro e V ⟨rfl, hV⟩; replace HC : Hid (Below w.heap.size w V ∧ Below W1.heap.size W1 V) := ⟨HC.out.1.trans (hV.mono HC.out.1.size), HC.out.2.trans (hV.mono HC.out.2.size)⟩; clear hV)
    | fail)
  go_ret
  exact ⟨rfl, HC.out.1⟩

end Go.Proofs.YtjaoiaajplgboaaDoor
