/- What coded answers of an image's error, and that ring answers true. What zeros answers: a matrix of zeros, in memory of its own. Boundaries of an image's cells, told in two ways: by ends and sides, and by how far middles are apart; no program is spoken of. What edgeEnds answers: the boundary of dimension 1. -/
import Derived.Test.YtbmojlnkjeapkaaGreatDoorCubeRim
import Derived.Test.YtbmojlnkjeapkaaGreatDoorCubeDim
import Derived.Test.YtbmojlnkjeapkaaGreatDoorCubeCells
import Derived.Test.YtbmojlnkjeapkaaGreatDoorCubeParts
import Derived.Deep.OwnRows
import Derived.Test.YtbmojlnkjeapkaaGreatDoorCubeMath3
import Derived.Maps.RangeWalk
namespace Go.Proofs.YtbmojlnkjeapkaaGreatDoor
open Go.RowKit Go.Sort

theorem ok_or_bad (m : List (List UInt8)) : OkImg m ∨ ∃ i, BadImg m i := by
  by_cases h1 : LargeI m
  · exact .inr ⟨1, .inl ⟨h1, rfl⟩⟩
  · by_cases h2 : UnevenI m
    · exact .inr ⟨2, .inr (.inl ⟨h1, h2, rfl⟩)⟩
    · by_cases h3 : OtherI m
      · exact .inr ⟨0, .inr (.inr ⟨h1, h2, h3, rfl⟩)⟩
      · exact .inl ⟨h1, h2, h3⟩

theorem ok_not_bad {m : List (List UInt8)} {i : Nat} (h : OkImg m) (hb : BadImg m i) : False := by
  rcases hb with ⟨h1, _⟩ | ⟨_, h1, _⟩ | ⟨_, _, h1, _⟩
  · exact h.1 h1
  · exact h.2.1 h1
  · exact h.2.2 h1

theorem bad_one {m : List (List UInt8)} {i j : Nat} (h : BadImg m i) (k : BadImg m j) : i = j := by
  rcases h with ⟨h1, rfl⟩ | ⟨h1, h2, rfl⟩ | ⟨h1, h2, h3, rfl⟩ <;> rcases k with ⟨k1, rfl⟩ | ⟨k1, k2, rfl⟩ | ⟨k1, k2, k3, rfl⟩ <;> first | rfl | contradiction

theorem errN_ok {m : List (List UInt8)} (h : OkImg m) : errN m = 0 := by
  unfold errN; rw [if_neg h.1, if_neg h.2.1, if_neg h.2.2]
theorem errN_bad {m : List (List UInt8)} {i : Nat} (h : BadImg m i) : errN m = (i : Int) + 1 := by
  unfold errN
  rcases h with ⟨h1, rfl⟩ | ⟨h1, h2, rfl⟩ | ⟨h1, h2, h3, rfl⟩
  · rw [if_pos h1]; rfl
  · rw [if_neg h1, if_pos h2]; rfl
  · rw [if_neg h1, if_neg h2, if_pos h3]; rfl

theorem AnswerI.ok {a : Nat → Addr} {m : List (List UInt8)} {bad : Value → Value} {good : Value} {w w' : World} {e : Ending} (h : AnswerI a m bad good w e w') (hok : OkImg m) : e = .returned good ∧ Below w.heap.size w w' := by
  rcases h.2 with ⟨i, hb, _⟩ | h2
  · exact (ok_not_bad hok hb).elim
  · exact ⟨h2.2, h.1⟩
theorem AnswerI.bad {a : Nat → Addr} {m : List (List UInt8)} {bad : Value → Value} {good : Value} {w w' : World} {e : Ending} (h : AnswerI a m bad good w e w') {i : Nat} (hb : BadImg m i) : e = .returned (bad (errV (a i))) ∧ Below w.heap.size w w' := by
  rcases h.2 with ⟨j, hj, he⟩ | h2
  · rw [bad_one hb hj]; exact ⟨he, h.1⟩
  · exact (ok_not_bad h2.1 hb).elim

theorem coded_ok (w : World) : Calls Tryz.prog 12 #[.nilIface, .int .i64 0] w fun e w' => e = .returned (.bool true) ∧ Below w.heap.size w w' :=
  (coded_nil 0 w).mono fun e w' h => ⟨by rw [h.1, decide_eq_true rfl], by rw [h.2]; exact Below.refl _ _⟩
theorem coded_bad {a : Nat → Addr} {s : Nat → ByteArray} (w : World) (hE : Errs a s w) {i : Nat} (hi : i < 8) : Calls Tryz.prog 12 #[errV (a i), .int .i64 ((i : Int) + 1)] w fun e w' => e = .returned (.bool true) ∧ Below w.heap.size w w' :=
  (coded_es w hE i hi ((i : Int) + 1)).mono fun e w' h => ⟨by rw [h.1, decide_eq_true rfl], h.2⟩

theorem ring_ok : OkImg ringM := by
  refine ⟨?_, ?_, ?_⟩
  · unfold LargeI; decide
  · unfold UnevenI; decide
  · unfold OtherI; decide
theorem ring_euler : eulerI ringM = 0 := by
  show (cornersN (fullAt ringM 3 3) (sqTo 4 4) : Int) - (edgesN (fullAt ringM 3 3) (sqTo 4 4) : Int) + (squaresN (fullAt ringM 3 3) (sqTo 4 4) : Int) = 0
  rw [ring_counts.1, ring_counts.2.1, ring_counts.2.2]; rfl
theorem ring_strs (w : World) : Strs (w.alloc (.cells #[.string ⟨#[35, 35, 35]⟩, .string ⟨#[35, 46, 35]⟩, .string ⟨#[35, 35, 35]⟩] 9)) (.slice (some ⟨w.heap.size, 0, none⟩) 3 3) ringM := by
  refine ⟨_, _, rfl, ⟨Nat.le_refl _, fun h => by cases h⟩, fun _ => ⟨w.heap.size, 0, rfl, trivial, fun k u hu => ?_⟩⟩
  rw [Nat.zero_add]
  have := (Go.MapKept.heap_alloc w (.cells #[.string ⟨#[35, 35, 35]⟩, .string ⟨#[35, 46, 35]⟩, .string ⟨#[35, 35, 35]⟩] 9)).1
  simp only [World.cell?, this]
  simpa [ringM, encStr] using hu

set_option maxRecDepth 100000 in
set_option maxHeartbeats 1000000 in
theorem ring_ {a : Nat → Addr} {s : Nat → ByteArray} (w : World) (hE : Errs a s w) :
    Calls Tryz.prog 4 #[] w fun e w' => e = .returned (.bool true) ∧ Below w.heap.size w w' := by
  have hB0 : Below w.heap.size w (w.alloc (.cells #[.string ⟨#[35, 35, 35]⟩, .string ⟨#[35, 46, 35]⟩, .string ⟨#[35, 35, 35]⟩] 9)) := (Below.refl _ w).alloc (Nat.le_refl _) _
  have hs := ring_strs w
  go_enter Tryz.func4, Tryz.ntmps4
  go_upto_region 2 with fail
  obtain ⟨W1, hW1⟩ : ∃ W1, w.alloc (.cells #[.string ⟨#[35, 35, 35]⟩, .string ⟨#[35, 46, 35]⟩, .string ⟨#[35, 35, 35]⟩] 9) = W1 := ⟨_, rfl⟩
  rw [hW1] at hB0 hs
  rw [hW1]
  have HC : Hid (Below w.heap.size w W1 ∧ Below W1.heap.size W1 W1) := ⟨hB0, Below.refl _ _⟩
  have hs1 : W1.heap.size ≤ W1.heap.size := Nat.le_refl _
  have hEU : ∀ V, Below w.heap.size w V ∧ Below W1.heap.size W1 V → Calls Tryz.prog 17 #[.slice (some ⟨w.heap.size, 0, none⟩) 3 3] V fun e w' => e = .returned (.tuple #[.int .i64 0, .nilIface]) ∧ Below V.heap.size V w' := fun V hV =>
    (euler_i (.slice (some ⟨w.heap.size, 0, none⟩) 3 3) ringM V (hE.below hV.1) (hs.below hV.2) (by decide)).mono fun e w' h => by have := h.ok ring_ok; rw [ring_euler] at this; exact this
  have hPI : ∀ V, Below w.heap.size w V ∧ Below W1.heap.size W1 V → Calls Tryz.prog 18 #[.slice (some ⟨w.heap.size, 0, none⟩) 3 3] V fun e w' => e = .returned (.tuple #[.int .i64 1, .nilIface]) ∧ Below V.heap.size V w' := fun V hV =>
    (pieces_i (.slice (some ⟨w.heap.size, 0, none⟩) 3 3) ringM V (hE.below hV.1) (hs.below hV.2) (by decide)).mono fun e w' h => by have := h.ok ring_ok; rw [show piecesN ringM (wide ringM) ringM.length = 1 from ring_pieces] at this; exact this
  have hHO : ∀ V, Below w.heap.size w V ∧ Below W1.heap.size W1 V → Calls Tryz.prog 19 #[.slice (some ⟨w.heap.size, 0, none⟩) 3 3] V fun e w' => e = .returned (.tuple #[.int .i64 1, .nilIface]) ∧ Below V.heap.size V w' := fun V hV =>
    (holes_i (.slice (some ⟨w.heap.size, 0, none⟩) 3 3) ringM V (hE.below hV.1) (hs.below hV.2) (by decide)).mono fun e w' h => by have := h.ok ring_ok; rw [show holesN ringM (wide ringM) ringM.length = 1 from ring_holes] at this; exact this
  clear hW1 hs hB0 hE hs1
  go_wp2_with (first
    | (go_at_call 17; refine (hEU _ HC.out).mono ?_; rintro e V ⟨rfl, hV⟩; replace HC : Hid (Below w.heap.size w V ∧ Below W1.heap.size W1 V) := ⟨HC.out.1.trans (hV.mono HC.out.1.size), HC.out.2.trans (hV.mono HC.out.2.size)⟩; clear hV)
    | (go_at_call 18; refine (hPI _ HC.out).mono ?_; rintro e V ⟨rfl, hV⟩; replace HC : Hid (Below w.heap.size w V ∧ Below W1.heap.size W1 V) := ⟨HC.out.1.trans (hV.mono HC.out.1.size), HC.out.2.trans (hV.mono HC.out.2.size)⟩; clear hV)
    | (go_at_call 19; refine (hHO _ HC.out).mono ?_; rintro e V ⟨rfl, hV⟩; replace HC : Hid (Below w.heap.size w V ∧ Below W1.heap.size W1 V) := ⟨HC.out.1.trans (hV.mono HC.out.1.size), HC.out.2.trans (hV.mono HC.out.2.size)⟩; clear hV)
    | fail)
  go_ret
  exact ⟨rfl, HC.out.1⟩

end Go.Proofs.YtbmojlnkjeapkaaGreatDoor

namespace Go.Proofs.YtbmojlnkjeapkaaGreatDoor
open Go.RowKit Go.Sort Go.Maps

/-- A matrix's value: so many rows and columns, its numbers in block g. -/
def matV (g r c : Nat) : Value := .agg #[.int .i64 (r : Int), .int .i64 (c : Int), .slice (some ⟨g, 0, none⟩) (r * c) (r * c)]

set_option maxRecDepth 100000 in
theorem zeros_ (r c : Nat) (hr : r ≤ 2000) (hc : c ≤ 2000) (w : World) :
    Calls Tryz.prog 29 #[.int .i64 (r : Int), .int .i64 (c : Int)] w fun e w' => ∃ g, e = .returned (matV g r c) ∧ w.heap.size ≤ g ∧ g < w'.heap.size ∧ w'.rowIs g 3 (r * c) (fun _ => .int .i64 0) ∧ Below w.heap.size w w' := by
  have hrc : r * c ≤ 2000 * 2000 := Nat.mul_le_mul hr hc
  have e1 : IntKind.i64.wrap ((r : Int) * (c : Int)) = ((r * c : Nat) : Int) := by
    rw [← Int.natCast_mul]; exact wrapI (by omega) (by omega)
  have hmk := run_make_row' (P := Tryz.prog) 40 3 (.int .i64 0) 8 Tryz.underlying40 Tryz.info3 rfl .i64 .i64 (r * c) (by omega) (by omega)
  obtain ⟨n, hn⟩ : ∃ n, r * c = n := ⟨_, rfl⟩
  unfold matV
  rw [hn] at e1 hmk ⊢
  clear hn hrc
  go_enter Tryz.func29, Tryz.ntmps29
  go_wp2_with fail
  have q : ∀ j u, [Value.int .i64 (r : Int), .int .i64 (c : Int), .slice (some ⟨w.heap.size + 1, 0, none⟩) n n][j]? = some u → ((w.alloc (.cells #[.int .i64 (r : Int), .int .i64 (c : Int), .slice (some ⟨w.heap.size + 1, 0, none⟩) n n] 42)).alloc (.cells (madeCells #[.int .i64 0] n) 3)).cell? ⟨w.heap.size, j, none⟩ = some u := fun j u hu => by
    have := cells_new w [.int .i64 (r : Int), .int .i64 (c : Int), .slice (some ⟨w.heap.size + 1, 0, none⟩) n n] 42 j u hu
    rw [Addr.add_lit, Nat.zero_add] at this
    exact (World.cell?_alloc_lt _ _ ⟨w.heap.size, j, none⟩ (by simp)).trans this
  have q0 := q 0 _ rfl
  have q1 := q 1 _ rfl
  have q2 := q 2 _ rfl
  refine bodyPost_ret (v := .agg #[.int .i64 (r : Int), .int .i64 (c : Int), .slice (some ⟨w.heap.size + 1, 0, none⟩) n n]) ?_ rfl ⟨w.heap.size + 1, rfl, by omega, by simp, ?_, ?_⟩
  · simp [results, Tryz.f29, go_sem, q0, q1, q2]
  · have := World.rowIs_made (w.alloc (.cells #[.int .i64 (r : Int), .int .i64 (c : Int), .slice (some ⟨w.heap.size + 1, 0, none⟩) n n] 42)) (.int .i64 0) n 3
    rw [World.size_alloc] at this
    exact this
  · exact ((Below.refl _ w).alloc (Nat.le_refl _) _).alloc (by simp) _

end Go.Proofs.YtbmojlnkjeapkaaGreatDoor

namespace Go.Proofs.YtbmojlnkjeapkaaGreatDoor

/-- Numbers by rows and columns, row behind row. -/
def matL (r c : Nat) (E : Nat → Nat → Int) : List Int := (List.range r).flatMap fun i => (List.range c).map fun k => E i k

theorem matL_succ (r c : Nat) (E : Nat → Nat → Int) : matL (r + 1) c E = matL r c E ++ (List.range c).map (E r) := by simp [matL, List.range_succ]
theorem matL_len (r c : Nat) (E : Nat → Nat → Int) : (matL r c E).length = r * c := by
  induction r with
  | zero => simp [matL]
  | succ r ih => rw [matL_succ, List.length_append, ih, List.length_map, List.length_range, Nat.succ_mul]
theorem matL_at {r c : Nat} (E : Nat → Nat → Int) {i k : Nat} (hi : i < r) (hk : k < c) : (matL r c E)[i * c + k]? = some (E i k) := by
  induction r with
  | zero => omega
  | succ r ih =>
    rw [matL_succ]
    by_cases e : i < r
    · have h1 : i * c + k < r * c := by
        have : (i + 1) * c ≤ r * c := Nat.mul_le_mul_right c e
        rw [Nat.succ_mul] at this
        omega
      rw [List.getElem?_append_left (by rw [matL_len]; exact h1)]
      exact ih e
    · obtain rfl : i = r := by omega
      rw [List.getElem?_append_right (by rw [matL_len]; omega), matL_len, show i * c + k - i * c = k by omega, List.getElem?_map, List.getElem?_range hk]
      rfl

/-- Twice a corner, twice an edge's middle, twice a square's middle. -/
def dbl (a : Sq) : Sq := (2 * a.1, 2 * a.2)
def mid (e : Sq × Sq) : Sq := (e.1.1 + e.2.1, e.1.2 + e.2.2)
def ctr (a : Sq) : Sq := (2 * a.1 + 1, 2 * a.2 + 1)

theorem cellsL_zero (f : Int → Int → Bool) (l : List Sq) : cellsL f 0 l = (cornersL f l).map dbl := by
  induction l with
  | nil => rfl
  | cons a l ih =>
    unfold cellsL cornersL at ih ⊢
    rw [List.flatMap_cons, ih, List.filter_cons]
    simp only [cellsAtL, kindD, kindB, cellOf]
    cases h : cornerB f a <;> simp [h, dbl]

theorem cellsL_one (f : Int → Int → Bool) (l : List Sq) : cellsL f 1 l = (edgesL f l).map mid := by
  induction l with
  | nil => rfl
  | cons a l ih =>
    unfold cellsL edgesL at ih ⊢
    rw [List.flatMap_cons, ih, List.flatMap_cons, List.map_append]
    congr 1
    simp only [cellsAtL, kindD, kindB, cellOf]
    cases h : rightB f a <;> cases h' : downB f a <;> simp [h, h', mid] <;> omega

theorem cellsL_two (f : Int → Int → Bool) (l : List Sq) : cellsL f 2 l = (squaresL f l).map ctr := by
  induction l with
  | nil => rfl
  | cons a l ih =>
    unfold cellsL squaresL at ih ⊢
    rw [List.flatMap_cons, ih, List.filter_cons]
    simp only [cellsAtL, kindD, kindB, cellOf]
    cases h : hereB f a <;> simp [h, ctr]

theorem cellsL_three (f : Int → Int → Bool) (l : List Sq) : cellsL f 3 l = [] := by
  induction l with
  | nil => rfl
  | cons a l ih =>
    unfold cellsL at ih ⊢
    rw [List.flatMap_cons, ih]
    simp [cellsAtL, kindD]

/-- How a cell lies in a greater one. -/
def incI (a b : Sq) (d : Int) : Int := if (a.1 - b.1) * (a.1 - b.1) + (a.2 - b.2) * (a.2 - b.2) ≠ 1 then 0 else if d = 1 then (a.1 - b.1) + (a.2 - b.2) else (a.1 - b.1) - (a.2 - b.2)

/-- An edge to the right or downward. -/
def Unit1 (e : Sq × Sq) : Prop := e.2 = (e.1.1 + 1, e.1.2) ∨ e.2 = (e.1.1, e.1.2 + 1)

/-- An edge's ends, a square's sides. -/
def endI (a : Sq) (e : Sq × Sq) : Int := if a = e.2 then 1 else if a = e.1 then -1 else 0
def sideI (e : Sq × Sq) (s : Sq) : Int :=
  if e = (s, (s.1 + 1, s.2)) then 1 else if e = ((s.1 + 1, s.2), (s.1 + 1, s.2 + 1)) then 1 else if e = ((s.1, s.2 + 1), (s.1 + 1, s.2 + 1)) then -1 else if e = (s, (s.1, s.2 + 1)) then -1 else 0

theorem sq_nat0 (x : Int) : x * x = ((x.natAbs * x.natAbs : Nat) : Int) := Int.natAbs_mul_self.symm

theorem sq_big {x : Int} (h : x < -1 ∨ 1 < x) : 4 ≤ x * x := by
  have e := sq_nat0 x
  have h1 : 2 ≤ x.natAbs := by omega
  have h2 := Nat.mul_le_mul h1 h1
  rw [e]
  omega

theorem one_of {x y : Int} : x * x + y * y = 1 ↔ (x = 0 ∧ (y = 1 ∨ y = -1)) ∨ (y = 0 ∧ (x = 1 ∨ x = -1)) := by
  constructor
  · intro h
    have px : 0 ≤ x * x := by rw [sq_nat0]; omega
    have py : 0 ≤ y * y := by rw [sq_nat0]; omega
    have hx : x = -1 ∨ x = 0 ∨ x = 1 := by
      rcases Int.lt_trichotomy x (-1) with h1 | h1 | h1
      · have := sq_big (.inl h1); omega
      · exact .inl h1
      · rcases Int.lt_trichotomy x 1 with h2 | h2 | h2
        · exact .inr (.inl (by omega))
        · exact .inr (.inr h2)
        · have := sq_big (.inr h2); omega
    have hy : y = -1 ∨ y = 0 ∨ y = 1 := by
      rcases Int.lt_trichotomy y (-1) with h1 | h1 | h1
      · have := sq_big (.inl h1); omega
      · exact .inl h1
      · rcases Int.lt_trichotomy y 1 with h2 | h2 | h2
        · exact .inr (.inl (by omega))
        · exact .inr (.inr h2)
        · have := sq_big (.inr h2); omega
    rcases hx with rfl | rfl | rfl <;> rcases hy with rfl | rfl | rfl <;> simp at h ⊢
  · rintro (⟨rfl, rfl | rfl⟩ | ⟨rfl, rfl | rfl⟩) <;> rfl

theorem sq_eq {a b : Sq} : a = b ↔ a.1 = b.1 ∧ a.2 = b.2 := ⟨fun h => by rw [h]; exact ⟨rfl, rfl⟩, fun h => Prod.ext h.1 h.2⟩
theorem ed_eq {a b : Sq × Sq} : a = b ↔ (a.1.1 = b.1.1 ∧ a.1.2 = b.1.2) ∧ (a.2.1 = b.2.1 ∧ a.2.2 = b.2.2) := ⟨fun h => by rw [h]; exact ⟨⟨rfl, rfl⟩, rfl, rfl⟩, fun h => Prod.ext (sq_eq.2 h.1) (sq_eq.2 h.2)⟩

theorem inc_end {a : Sq} {e : Sq × Sq} (he : Unit1 e) : incI (dbl a) (mid e) 1 = endI a e := by
  unfold incI endI dbl mid
  simp only [ne_eq, one_of, sq_eq, ↓reduceIte]
  rcases he with h | h <;> rw [h] <;> simp only <;> (repeat' split) <;> omega

theorem inc_side {e : Sq × Sq} {s : Sq} (he : Unit1 e) : incI (mid e) (ctr s) 2 = sideI e s := by
  unfold incI sideI ctr mid
  simp only [ne_eq, one_of, ed_eq]
  rcases he with h | h <;> rw [h] <;> simp only <;> (repeat' split) <;> omega

theorem edgesL_unit {f : Int → Int → Bool} {l : List Sq} {e : Sq × Sq} (h : e ∈ edgesL f l) : Unit1 e := (edgesL_mem h).2

end Go.Proofs.YtbmojlnkjeapkaaGreatDoor

namespace Go.Proofs.YtbmojlnkjeapkaaGreatDoor
open Go.RowKit Go.Sort Go.Maps

/-- The edges that are done. -/
def endF (C : List Sq) (E : List (Sq × Sq)) (left : Lit → Bool) (j : Nat) : Int :=
  if left (keyD (E.getD (j % E.length) ((0, 0), (0, 0)))) = true then 0 else endI (C.getD (j / E.length) (0, 0)) (E.getD (j % E.length) ((0, 0), (0, 0)))

theorem div_of {i k n : Nat} (hk : k < n) : (i * n + k) / n = i ∧ (i * n + k) % n = k := by
  have h0 : 0 < n := by omega
  constructor
  · rw [Nat.mul_comm, Nat.mul_add_div h0, Nat.div_eq_of_lt hk, Nat.add_zero]
  · rw [Nat.mul_comm, Nat.mul_add_mod, Nat.mod_eq_of_lt hk]

theorem nodup_at {α : Type} {l : List α} (h : l.Nodup) {i j : Nat} (hi : i < l.length) (hj : j < l.length) (e : l[i] = l[j]) : i = j := (List.getElem?_inj hi h).1 (by rw [List.getElem?_eq_getElem hi, List.getElem?_eq_getElem hj, e])

theorem same_lit {a b : Lit} (ha : ∃ x, a = .string x) (hb : ∃ x, b = .string x) : a.sameKey b = true ↔ a = b := by
  constructor
  · exact WideAt.sameKey_eq
  · rintro rfl
    obtain ⟨x, rfl⟩ := ha
    exact WideAt.sameKey_self (show WideAt.IsKeyLit (.string x) from trivial)

theorem end_step {C : List Sq} {E : List (Sq × Sq)} (hC : C.Nodup) (hE : (E.map keyD).Nodup) {left : Lit → Bool} {k i1 i2 : Nat} {e : Sq × Sq} (hk : E[k]? = some e) (h1 : C[i1]? = some e.1) (h2 : C[i2]? = some e.2) (_hne : e.1 ≠ e.2) (hl : left (keyD e) = true) (j : Nat) (hj : j < C.length * E.length) :
    (if j = i2 * E.length + k then 1 else if j = i1 * E.length + k then -1 else endF C E left j) = endF C E (fun z => left z && !z.sameKey (keyD e)) j := by
  obtain ⟨hkl, hke⟩ := List.getElem?_eq_some_iff.1 hk
  obtain ⟨hi1, he1⟩ := List.getElem?_eq_some_iff.1 h1
  obtain ⟨hi2, he2⟩ := List.getElem?_eq_some_iff.1 h2
  have hn0 : 0 < E.length := by omega
  have hjd : j / E.length < C.length := Nat.div_lt_of_lt_mul (by rw [Nat.mul_comm]; exact hj)
  have hjm : j % E.length < E.length := Nat.mod_lt _ hn0
  have hjj : j = (j / E.length) * E.length + j % E.length := by rw [Nat.mul_comm]; exact (Nat.div_add_mod j E.length).symm
  unfold endF
  have hEj : E.getD (j % E.length) ((0, 0), (0, 0)) = E[j % E.length] := by simp [List.getD, List.getElem?_eq_getElem hjm]
  have hCj : C.getD (j / E.length) (0, 0) = C[j / E.length] := by simp [List.getD, List.getElem?_eq_getElem hjd]
  rw [hEj, hCj]
  by_cases hm : j % E.length = k
  · have hEe : E[j % E.length] = e := by rw [← hke]; congr 1
    rw [hEe, hl]
    have hself : (keyD e).sameKey (keyD e) = true := (same_lit ⟨_, rfl⟩ ⟨_, rfl⟩).2 rfl
    simp only [hself, Bool.not_true, Bool.and_false, if_true, Bool.false_eq_true, if_false]
    unfold endI
    have e2 : (C[j / E.length] = e.2) ↔ j = i2 * E.length + k := by
      rw [← he2]
      constructor
      · intro h
        have := nodup_at hC _ _ h
        rw [hjj, this, hm]
      · intro h
        congr 1
        rw [h]; exact (div_of hkl).1
    have e1 : (C[j / E.length] = e.1) ↔ j = i1 * E.length + k := by
      rw [← he1]
      constructor
      · intro h
        have := nodup_at hC _ _ h
        rw [hjj, this, hm]
      · intro h
        congr 1
        rw [h]; exact (div_of hkl).1
    simp only [e1, e2]
  · have h2' : ¬ j = i2 * E.length + k := fun h => hm (by rw [h]; exact (div_of hkl).2)
    have h1' : ¬ j = i1 * E.length + k := fun h => hm (by rw [h]; exact (div_of hkl).2)
    rw [if_neg h2', if_neg h1']
    have hk' : (keyD E[j % E.length]).sameKey (keyD e) = false := by
      rw [Bool.eq_false_iff]
      intro h
      have h3 := (same_lit ⟨_, rfl⟩ ⟨_, rfl⟩).1 h
      rw [← hke] at h3
      have h4 : (E.map keyD)[j % E.length]'(by simpa using hjm) = (E.map keyD)[k]'(by simpa using hkl) := by rw [List.getElem_map, List.getElem_map]; exact h3
      exact hm (nodup_at hE _ _ h4)
    simp only [hk', Bool.not_false, Bool.and_true]

end Go.Proofs.YtbmojlnkjeapkaaGreatDoor
