/- What is done to rows: a number turned, asked, rows added, the first number, what is told. What faces answers: the faces of a dimension, in order. What vector answers: how many faces there are of each length. -/
import Derived.Test.YtldknhganoiajaaGreatDoorCupRow
import Derived.Test.YtldknhganoiajaaGreatDoorOpen
import Derived.Test.YtldknhganoiajaaGreatDoorMathV
import Derived.Laws.OwnMore
import Derived.Deep.AppendLies
namespace Go.Proofs.YtldknhganoiajaaGreatDoor
open Go.RowKit Go.Sort

theorem shl_one {k : Nat} (h : k < 64) : IntKind.u64.wrap (2 ^ k) = ((2 ^ k : Nat) : Int) := by
  have h2 : 2 ^ k < 2 ^ 64 := Nat.pow_lt_pow_right (by decide) h
  rw [IntKind.wrap_u64]
  have e : (2 : Int) ^ k = ((2 ^ k : Nat) : Int) := by simp
  rw [e]
  generalize 2 ^ k = q at h2 ⊢
  omega
theorem bit_word (x k : Nat) : ((x : Int) / 2 ^ k) = ((x / 2 ^ k : Nat) : Int) := by
  have e : (2 : Int) ^ k = ((2 ^ k : Nat) : Int) := by simp
  rw [e]; rfl
theorem and_one (x k : Nat) (hx : x < 2 ^ 64) : bits .and .u64 ((x / 2 ^ k : Nat) : Int) 1 = (if x.testBit k = true then 1 else 0) := by
  have h1 : x / 2 ^ k < 2 ^ 64 := Nat.lt_of_le_of_lt (Nat.div_le_self _ _) hx
  have := bits_and_u64_nat (x / 2 ^ k) 1 h1 (by decide)
  rw [show ((1 : Nat) : Int) = 1 from rfl] at this
  rw [this, Nat.testBit_eq_decide_div_mod_eq, Nat.and_one_is_mod]
  have := Nat.mod_two_eq_zero_or_one (x / 2 ^ k)
  rcases this with h | h <;> simp [h]
theorem flip_lt {n x p : Nat} (h : x < 2 ^ n) (hp : p < n) : x ^^^ 2 ^ p < 2 ^ n := xor_lt h (Nat.pow_lt_pow_right (by decide) hp)

theorem grown_word (W : World) (p : Addr) (v : Value) : W.grownBy (W.setCell p v) (some p.block) := ⟨rfl, rfl, rfl, by simp, fun k _ hk => Below.heap_setCell W p v k (fun e => hk (by rw [e]))⟩
theorem grown_drew {w W : World} {row : Option Nat} (h : w.grownBy W row) : w.grownBy W.drew row := ⟨h.os, h.tape, h.output, h.size, h.block⟩
/-- A word is written into a row. -/
theorem WordIn.write {S : Nat → Prop} {w : World} {b c n x y : Nat} (h : WordIn S w (.slice (some ⟨b, 0, none⟩) 1 c) n x) (hy : y < 2 ^ n) (h0 : 0 < n) : WordIn S (w.setCell ⟨b, 0, none⟩ (.int .u64 (y : Int))) (.slice (some ⟨b, 0, none⟩) 1 c) n y := by
  obtain ⟨h1, h2, ⟨h3, -⟩ | ⟨h3, b', c', e, hc, hb, hl, h4, h5⟩⟩ := h
  · omega
  · cases e
    exact ⟨hy, h2, .inr ⟨h3, b, c, rfl, hc, hb, by rw [World.size_setCell]; exact hl, World.cell?_setCell_same' _ _ _ (by rw [h4]; rfl), by rw [World.frozen?_setCell]; exact h5⟩⟩

set_option maxRecDepth 100000 in
set_option maxHeartbeats 1000000 in
theorem flip_ {S : Nat → Prop} (v : Value) (n x p : Nat) (w : World) (h : WordIn S w v n x) (hp : p < n) :
    Calls Tryz.prog 61 #[v, .int .i64 (p : Int)] w fun e w' => e = .returned (.tuple #[]) ∧ WordIn S w' v n (x ^^^ 2 ^ p) ∧ w.grownBy w' v.ownBlock ∧ w'.heap.size = w.heap.size := by
  have hlt := h.lt
  have hh := h
  obtain ⟨h1, h2, ⟨h3, -⟩ | ⟨h3, b, c, rfl, hc, hb, hl, h4, h5⟩⟩ := h
  · omega
  have e1 : (p : Int).tdiv 64 = 0 := by rw [Int.tdiv_eq_ediv_of_nonneg (by omega)]; omega
  have e2 : (p : Int).tmod 64 = (p : Int) := by rw [Int.tmod_eq_emod_of_nonneg (by omega)]; omega
  have z1 : (0 : Int) ≤ (p : Int) := by omega
  have z2 : (p : Int) ≤ 64 := by omega
  have e8 : bits BinOp.xor .u64 (x : Int) (IntKind.u64.wrap (2 ^ p)) = ((x ^^^ 2 ^ p : Nat) : Int) := by
    rw [shl_one (show p < 64 by omega)]
    exact bits_xor_u64_nat x (2 ^ p) hlt (Nat.pow_lt_pow_right (by decide) (show p < 64 by omega))
  have hfl := flip_lt h1 hp
  have HE : Hid (WordIn S (w.setCell ⟨b, 0, none⟩ (.int .u64 ((x ^^^ 2 ^ p : Nat) : Int))) (.slice (some ⟨b, 0, none⟩) 1 c) n (x ^^^ 2 ^ p) ∧ w.grownBy (w.setCell ⟨b, 0, none⟩ (.int .u64 ((x ^^^ 2 ^ p : Nat) : Int))) (some b) ∧ (w.setCell ⟨b, 0, none⟩ (.int .u64 ((x ^^^ 2 ^ p : Nat) : Int))).heap.size = w.heap.size) :=
    ⟨hh.write hfl h3, grown_word w ⟨b, 0, none⟩ _, World.size_setCell _ _ _⟩
  have H8 := Hid.mk' e8
  clear h1 h2 h3 hfl e8 hh
  go_enter Tryz.func61, Tryz.ntmps61
  go_region
  all_goals go_wp2_with fail
  all_goals (refine bodyPost_end (v := .tuple #[]) ?_ rfl ?_)
  all_goals first
    | (simp [results, Tryz.f61, go_sem]; done)
    | (rw [H8.out]; exact ⟨rfl, HE.out.1.below (Below.refl _ _).drew, grown_drew HE.out.2.1, HE.out.2.2⟩)

set_option maxRecDepth 100000 in
theorem has_ {S : Nat → Prop} (v : Value) (n x p : Nat) (w : World) (h : WordIn S w v n x) (hp : p < n) :
    Calls Tryz.prog 64 #[v, .int .i64 (p : Int)] w fun e w' => e = .returned (.bool (x.testBit p)) ∧ w' = w := by
  have hlt := h.lt
  obtain ⟨h1, h2, ⟨h3, -⟩ | ⟨h3, b, c, rfl, hc, hb, hl, h4, h5⟩⟩ := h
  · omega
  have e1 : (p : Int).tdiv 64 = 0 := by rw [Int.tdiv_eq_ediv_of_nonneg (by omega)]; omega
  have e2 : (p : Int).tmod 64 = (p : Int) := by rw [Int.tmod_eq_emod_of_nonneg (by omega)]; omega
  have z1 : (0 : Int) ≤ (p : Int) := by omega
  have z2 : (p : Int) ≤ 64 := by omega
  have e8 : (bits BinOp.and .u64 ((x : Int) / 2 ^ p) 1 == 1) = x.testBit p := by
    rw [bit_word, and_one x p hlt]
    cases x.testBit p <;> rfl
  have H8 := Hid.mk' e8
  rw [← H8.out]
  clear e8 hlt h1
  go_enter Tryz.func64, Tryz.ntmps64
  go_wp2_with fail
  go_ret
  exact ⟨rfl, rfl⟩

set_option maxRecDepth 100000 in
theorem add_ {S S' : Nat → Prop} (v u : Value) (n x y : Nat) (w : World) (h : WordIn S w v n x) (h' : WordIn S' w u n y) :
    Calls Tryz.prog 53 #[v, u] w fun e w' => e = .returned (.tuple #[]) ∧ WordIn S w' v n (x ^^^ y) ∧ w.grownBy w' v.ownBlock ∧ w'.heap.size = w.heap.size ∧ (n = 0 → w' = w) := by
  have hlt := h.lt
  have hlt' := h'.lt
  have hh := h
  obtain ⟨h1, h2, ⟨h3, a, c, rfl⟩ | ⟨h3, b, c, rfl, hc, hb, hl, h4, h5⟩⟩ := h
  · obtain ⟨g1, g2, ⟨g3, a', c', rfl⟩ | ⟨g3, _⟩⟩ := h'
    · have HE : Hid (WordIn S w (.slice a 0 c) n (x ^^^ y) ∧ w.grownBy w (Value.slice a 0 c).ownBlock) := ⟨⟨xor_lt h1 g1, h2, .inl ⟨h3, a, c, rfl⟩⟩, ⟨rfl, rfl, rfl, Nat.le_refl _, fun _ _ _ => rfl⟩⟩
      clear h1 g1 hh hlt hlt'
      go_enter Tryz.func53, Tryz.ntmps53
      go_wp2_with fail
      go_loopw [8] (fun p W => p = .int .i64 0 ∧ W = w) (fun _ _ => 0)
      case atStart => exact ⟨rfl, rfl⟩
      case round =>
        obtain ⟨rfl, rfl⟩ := hrel
        go_wp2_with fail
        refine bodyPost_end (v := .tuple #[]) (by simp [results, Tryz.f53, go_sem]) rfl ⟨rfl, HE.out.1, HE.out.2, rfl, fun _ => rfl⟩
    · omega
  · obtain ⟨g1, g2, ⟨g3, _⟩ | ⟨g3, b', c', rfl, hc', hb', hl', g4, g5⟩⟩ := h'
    · omega
    have e8 := bits_xor_u64_nat x y hlt hlt'
    have HE : Hid (WordIn S (w.setCell ⟨b, 0, none⟩ (.int .u64 ((x ^^^ y : Nat) : Int))) (.slice (some ⟨b, 0, none⟩) 1 c) n (x ^^^ y) ∧ w.grownBy (w.setCell ⟨b, 0, none⟩ (.int .u64 ((x ^^^ y : Nat) : Int))) (some b) ∧ (w.setCell ⟨b, 0, none⟩ (.int .u64 ((x ^^^ y : Nat) : Int))).heap.size = w.heap.size) :=
      ⟨hh.write (xor_lt h1 g1) h3, grown_word w ⟨b, 0, none⟩ _, World.size_setCell _ _ _⟩
    obtain ⟨z, hz⟩ : ∃ z, x ^^^ y = z := ⟨_, rfl⟩
    rw [hz] at e8 HE ⊢
    clear h1 g1 hh hlt hlt' hz
    go_enter Tryz.func53, Tryz.ntmps53
    go_wp2_with fail
    go_loopw [8] (fun p W => (p = .int .i64 0 ∧ W = w) ∨ (p = .int .i64 1 ∧ W = w.setCell ⟨b, 0, none⟩ (.int .u64 (z : Int)))) (fun p _ => 1 - (intOf p).toNat)
    case atStart => exact .inl ⟨rfl, rfl⟩
    case round =>
      rcases hrel with ⟨rfl, rfl⟩ | ⟨rfl, rfl⟩
      · go_wp2_with fail
        go_roundw
        case rel => first | exact .inr ⟨rfl, rfl⟩ | simp
        case measure => simp [intOf]
      · go_wp2_with fail
        refine bodyPost_end (v := .tuple #[]) (by simp [results, Tryz.f53, go_sem]) rfl ⟨rfl, HE.out.1, HE.out.2.1, HE.out.2.2, fun e => absurd e (by omega)⟩

/-- Where a row begins: its least number, or one behind them all. -/
def firstN (n x : Nat) : Nat := if n = 0 then 0 else low x
set_option maxRecDepth 100000 in
theorem first_ {S : Nat → Prop} (v : Value) (n x : Nat) (w : World) (h : WordIn S w v n x) (hT : TabOk w) :
    Calls Tryz.prog 62 #[v] w fun e w' => e = .returned (.int .i64 (firstN n x : Int)) ∧ w' = w := by
  have hlt := h.lt
  obtain ⟨h1, h2, ⟨h3, a, c, rfl⟩ | ⟨h3, b, c, rfl, hc, hb, hl, h4, h5⟩⟩ := h
  · have HF : Hid (firstN n x = 0) := by show firstN n x = 0; unfold firstN; rw [if_pos h3]
    rw [HF.out]
    clear h1 hlt h2 h3 HF
    go_enter Tryz.func62, Tryz.ntmps62
    go_wp2_with fail
    go_loopw [7] (fun p W => p = .int .i64 0 ∧ W = w) (fun _ _ => 0)
    case atStart => exact ⟨rfl, rfl⟩
    case round =>
      obtain ⟨rfl, rfl⟩ := hrel
      go_wp2_with fail
      go_ret
      exact ⟨rfl, rfl⟩
  · rcases Nat.eq_zero_or_pos x with h0 | h0
    · subst h0
      have HF : Hid (firstN n 0 = 64) := by show firstN n 0 = 64; unfold firstN; rw [if_neg (by omega)]; rfl
      rw [HF.out]
      clear h1 hlt h2 h3 HF
      go_enter Tryz.func62, Tryz.ntmps62
      go_wp2_with fail
      go_loopw [7] (fun p W => (p = .int .i64 0 ∨ p = .int .i64 1) ∧ W = w) (fun p _ => 1 - (intOf p).toNat)
      case atStart => exact ⟨.inl rfl, rfl⟩
      case round =>
        rcases hrel with ⟨rfl | rfl, rfl⟩
        · go_wp2_with fail
          go_roundw
          case rel => simp
          case measure => simp [intOf]
        · go_wp2_with fail
          go_ret
          exact ⟨rfl, rfl⟩
    · have htz := tz_ x (by omega) hlt w hT
      have hlo := (low_bits (by omega) hlt).1
      have hne : ((x : Int) != 0) = true := by simp; omega
      have HF : Hid (firstN n x = low x) := by show firstN n x = low x; unfold firstN; rw [if_neg (by omega)]
      rw [HF.out]
      obtain ⟨k, hk⟩ : ∃ k, low x = k := ⟨_, rfl⟩
      rw [hk] at htz hlo ⊢
      clear h1 hlt hk HF
      go_enter Tryz.func62, Tryz.ntmps62
      go_wp2_with fail
      go_loopw [7] (fun p W => p = .int .i64 0 ∧ W = w) (fun p _ => 0)
      case atStart => exact ⟨rfl, rfl⟩
      case round =>
        obtain ⟨rfl, rfl⟩ := hrel
        go_wp2_with (first | (go_at_call 54; refine htz.mono ?_; rintro e V ⟨rfl, rfl⟩) | fail)
        go_ret
        exact ⟨by simp, rfl⟩

theorem firstN_zero {n x : Nat} (h : x < 2 ^ n) (hn : n ≤ 64) : firstN n x = (if n = 0 then 0 else 64) ↔ x = 0 := by
  unfold firstN
  split
  · rename_i h0
    subst h0
    simp at h
    simp [h]
  · rename_i h0
    have hx : x < 2 ^ 64 := Nat.lt_of_lt_of_le h (Nat.pow_le_pow_right (by decide) hn)
    constructor
    · intro e
      rcases Nat.eq_zero_or_pos x with h1 | h1
      · exact h1
      · have := (low_bits (by omega) hx).1; omega
    · rintro rfl; rfl

set_option maxRecDepth 100000 in
theorem isZero_ {S : Nat → Prop} (v : Value) (n x : Nat) (w : World) (h : WordIn S w v n x) (hT : TabOk w) :
    Calls Tryz.prog 37 #[v] w fun e w' => e = .returned (.bool (decide (x = 0))) ∧ w' = w := by
  have hfi := first_ v n x w h hT
  have hfz := firstN_zero h.1 h.2.1
  obtain ⟨h1, h2, ⟨h3, a, c, rfl⟩ | ⟨h3, b, c, rfl, hc, hb, hl, h4, h5⟩⟩ := h
  · have H8 : Hid (((firstN n x : Int) == 0) = decide (x = 0)) := by
      show ((firstN n x : Int) == 0) = decide (x = 0)
      rw [if_pos h3] at hfz
      rw [Bool.eq_iff_iff]; simp; omega
    rw [← H8.out]
    clear hfz h1 h2 h3
    go_enter Tryz.func37, Tryz.ntmps37
    go_wp2_with (first | (go_at_call 62; refine hfi.mono ?_; rintro e V ⟨rfl, rfl⟩) | fail)
    go_ret
    exact ⟨rfl, rfl⟩
  · have H8 : Hid (((firstN n x : Int) == 64) = decide (x = 0)) := by
      show ((firstN n x : Int) == 64) = decide (x = 0)
      rw [if_neg (by omega)] at hfz
      rw [Bool.eq_iff_iff]; simp; omega
    rw [← H8.out]
    clear hfz h1 h2 h3
    go_enter Tryz.func37, Tryz.ntmps37
    go_wp2_with (first | (go_at_call 62; refine hfi.mono ?_; rintro e V ⟨rfl, rfl⟩) | fail)
    go_ret
    exact ⟨rfl, rfl⟩

end Go.Proofs.YtldknhganoiajaaGreatDoor

namespace Go.Proofs.YtldknhganoiajaaGreatDoor
open Go.RowKit Go.Sort Go.Maps

theorem beq_decide (a b : Int) : (a == b) = decide (a = b) := by
  by_cases h : a = b
  · subst h; simp
  · rw [decide_eq_false h, beq_false_of_ne h]

theorem of_dim_ (x : List UInt8) (dim : Int) (Bx : Nat) (w : World) (hB : w.cell? ⟨Bx, 0, none⟩ = some (.int .i64 dim)) (hl : x.length ≤ 1000) :
    Calls Tryz.prog 76 #[encStr x, .pointer (some ⟨Bx, 0, none⟩)] w fun e w' => e = .returned (.bool (decide ((x.length : Int) - 1 = dim))) ∧ w' = w := by
  have hsz : (⟨x.toArray⟩ : ByteArray).size = x.length := by simp [ByteArray.size]
  show Calls Tryz.prog 76 #[.string ⟨x.toArray⟩, .pointer (some ⟨Bx, 0, none⟩)] w _
  go_enter Tryz.func76, Tryz.ntmps76
  go_wp2
  go_ret
  exact ⟨by show Ending.returned (.bool ((x.length : Int) - 1 == dim)) = _; rw [beq_decide], rfl⟩

/-- What faces answers. -/
def FacesSays (F : List (List UInt8)) (dim : Int) (w : World) (e : Ending) (w' : World) : Prop :=
  ∃ v ss, e = .returned v ∧ StrsIn (fun b => w.heap.size ≤ b) w' v (srtS ss) ∧ ss.Nodup ∧ (∀ x, x ∈ ss ↔ x ∈ F ∧ (x.length : Int) - 1 = dim) ∧ Below w.heap.size w w'

set_option maxRecDepth 100000 in
theorem faces_ (b : Nat) (F : List (List UInt8)) (G : List UInt8 → Prop) (dim : Int) (w : World) (hP : PileAt w b F G) (hF : F.length ≤ 100000) (hx : ∀ x ∈ F, x.length ≤ 1000) :
    Calls Tryz.prog 59 #[.map (some b), .int .i64 dim] w fun e w' => FacesSays F dim w e w' := by
  have hP1 := hP.below ((Below.refl _ w).alloc (Nat.le_refl _) (.cells #[.int .i64 dim] 3))
  have hbox := box_new w (.int .i64 dim) 3
  have hkept := kept_ b F G 76 #[.pointer (some ⟨w.heap.size, 0, none⟩)] (fun x => decide ((x.length : Int) - 1 = dim)) (w.alloc (.cells #[.int .i64 dim] 3)) hP1 hF hx (enters_of Tryz.func76 (by kernel_rfl) rfl)
    (fun x hxF W hW => of_dim_ x dim w.heap.size W ((hW.cell (p := ⟨w.heap.size, 0, none⟩) (by simp)).trans hbox.1) (hx x hxF))
  clear hP1
  have hb := hbox.1
  clear hbox
  go_enter Tryz.func59, Tryz.ntmps59
  go_wp2_with fail
  refine hkept.mono ?_
  rintro e w2 ⟨v, ss, rfl, h1, h2, h3, h4⟩
  go_wp2
  go_ret
  refine ⟨_, ss, rfl, h1.mono (fun b _ h => by simp at h; omega), h2, fun x => by rw [h3]; simp, ((Below.refl _ w).alloc (Nat.le_refl _) _).trans (h4.mono (by simp))⟩

end Go.Proofs.YtldknhganoiajaaGreatDoor

namespace Go.Proofs.YtldknhganoiajaaGreatDoor
open Go.RowKit Go.Sort Go.Maps

/-- A slice's length. -/
def sliceLen : Value → Nat
  | .slice _ n _ => n
  | _ => 0

/-- What vector answers. -/
def VectorSays (F : List (List UInt8)) (w : World) (e : Ending) (w' : World) : Prop :=
  ∃ v, e = .returned v ∧ IntsIn (fun b => w.heap.size ≤ b) w' v (vecOf F) ∧ Below w.heap.size w w'

theorem encStr_string (x : List UInt8) : encStr x = .string ⟨x.toArray⟩ := rfl

theorem pad_length {α : Type} (ss : List (List α)) (j : Nat) : ((vecOf ss ++ List.replicate j 0).map (Value.int .i64)).length = topN ss + j := by simp [vecOf_length]
theorem pad_succ {α : Type} (ss : List (List α)) (j : Nat) : (vecOf ss ++ List.replicate (j + 1) 0).map (Value.int .i64) = (vecOf ss ++ List.replicate j 0).map (Value.int .i64) ++ [.int .i64 0] := by
  rw [List.replicate_succ', ← List.append_assoc, List.map_append]; rfl
theorem own_form {W : World} {base : Nat} {t : TypeId} {v : Value} {n : Nat} {xs : List Value} (h : W.ownsRow base t 1 v n xs) : ∃ a cap, v = .slice a n cap := by
  rcases h.2 with ⟨rfl, rfl⟩ | ⟨g, cap, cur, rfl, _⟩
  · exact ⟨_, _, rfl⟩
  · exact ⟨_, _, rfl⟩
theorem vec_stored {ss : List (List UInt8)} {x : List UInt8} (hx : x ≠ []) {j : Nat} (hj : j = x.length - topN ss) {c : Int} (hc : (vecOf ss ++ List.replicate j 0)[x.length - 1]?.getD 0 = c) :
    ((vecOf ss ++ List.replicate j 0).map (Value.int .i64)).set (x.length - 1) (.int .i64 (c + 1)) = (vecOf (ss ++ [x])).map (Value.int .i64) := by
  rw [vec_step hx, List.map_set, ← hj, hc]
theorem kept_perm {F ss : List (List UInt8)} {left : Lit → Bool} (hF : F.Nodup) (h : KeptSo F (fun _ => true) left ss) (hl : ∀ z, left z = false) : ss.Perm F :=
  (List.perm_ext_iff_of_nodup h.1 hF).2 (fun x => by rw [h.2 x, hl]; simp)

set_option maxRecDepth 100000 in
set_option maxHeartbeats 2000000 in
theorem vector_ (b : Nat) (F : List (List UInt8)) (G : List UInt8 → Prop) (w : World) (hP : PileAt w b F G) (hF : F.length ≤ 100000) (hn : F.Nodup) (hx : ∀ x ∈ F, x.length ≤ 1000) (hne : ∀ x ∈ F, x ≠ []) :
    Calls Tryz.prog 57 #[.map (some b)] w fun e w' => VectorSays F w e w' := by
  obtain ⟨i0, hi, hz0, hz1, hz2⟩ := info_parts Tryz.info3
  obtain ⟨D, d1, d2, d3, -⟩ := hP
  have hbl := d1.lt
  have HD2 : Hid (∀ x : List UInt8, Maps.has D (.string x) = true ↔ x ∈ F) := d2
  have HFX : Hid (F.Nodup ∧ (∀ x ∈ F, x.length ≤ 1000) ∧ ∀ x ∈ F, x ≠ []) := ⟨hn, hx, hne⟩
  clear d2 hn hx hne
  go_enter Tryz.func57, Tryz.ntmps57
  go_wp2_with (first
    | (at_range; refine wpList_range_own _ rfl _ 101 rfl 9 3 law_string Tryz.underlying101 _ b _ _ rfl d1 ?_; intro w0 hrg0 hg0 hs0)
    | go_in)
  (try go_frame)
  go_loopw [3] (fun v wr => ∃ (left : Lit → Bool) (cnt : Nat) (ss : List (List UInt8)), wr.ranges Tryz.prog 9 (plainElem Tryz.prog 3) b w.heap.size F.length D left cnt ∧ ss.length + cnt ≤ F.length ∧
      wr.ownsRow (w.heap.size + 1) 3 1 v (topN ss) ((vecOf ss).map (Value.int .i64)) ∧ KeptSo F (fun _ => true) left ss ∧ Below w.heap.size w wr ∧ w.heap.size + 1 ≤ wr.heap.size)
    (fun _ wr => wr.rangeLeft b w.heap.size)
  case atStart =>
    refine ⟨_, _, [], hrg0, by rw [← d3]; simp, World.ownsRow_nil _ _ _ _, ⟨List.nodup_nil, fun x => ⟨fun h => (by cases h), fun ⟨⟨h1, _⟩, h2⟩ => ?_⟩⟩, (Below.refl _ _).grown hg0 (Nat.le_refl _) (fun j hj => by cases hj), by have := hrg0.lt; omega⟩
    rw [(HD2.out x).2 h1] at h2; cases h2
  case round =>
    obtain ⟨left, cnt, ss, hrg, hcs, hrow, hso, hnx, hsz⟩ := hrel
    go_wp2_with (first
      | (at_next; refine wpList_next_ranges _ rfl _ rfl 9 law_string (plainElem Tryz.prog 3) encStr (Value.int .i64) (fun key kl hk => by obtain ⟨x, hx, _⟩ := Maps.keyOf_str Tryz.underlying9 hk; exact ⟨x, hx⟩) (fun v y hv => by obtain ⟨c, rfl, _⟩ := plainElem_int_inv Tryz.underlying3 hv; exact ⟨c, rfl⟩) b w.heap.size F.length _ _ _ rfl hrg ?_ ?_)
      | go_in)
    · intro hc0 hl0
      have HE : Hid (vecOf ss = vecOf F) := vecOf_perm (kept_perm HFX.out.1 hso hl0)
      have HI : Hid (IntsIn (fun b => w.heap.size ≤ b) wr u3 (vecOf ss)) := slice_of_owns hrow (fun b hb _ => by omega)
      clear hso hl0 hrg hrow
      go_wp2
      go_ret
      exact ⟨_, rfl, by rw [← HE.out]; exact HI.out, hnx⟩
    · intro x c kl yd yp w2 cnt2 hkey hlk hv hat hrg2 hlt hg2 hs2 hen
      obtain ⟨x', ex, rfl, _⟩ := Maps.keyOf_str Tryz.underlying9 hkey
      obtain rfl : x = x' := encStr_inj ex
      have hxF : x ∈ F := (HD2.out x).1 (has_true_of_atKey hat)
      have hrow2 := hrow.kept hg2 (Or.inr (row_ne_iter hrow hrg).symm)
      have hB2 : Below w.heap.size w w2 := hnx.grown hg2 hnx.size (fun j hj => by cases hj; exact Nat.le_refl _)
      have hst := kept_step hso hlk hxF
      have hsz2 : w.heap.size + 1 ≤ w2.heap.size := by have := hg2.size; omega
      rw [if_pos rfl] at hst
      have HST : Hid (KeptSo F (fun _ => true) (fun z => left z && !z.sameKey (.string x)) (ss ++ [x])) := hst
      have hxl : x.length ≤ 1000 := HFX.out.2.1 x hxF
      have hxp : 0 < x.length := List.length_pos_iff.2 (HFX.out.2.2 x hxF)
      have HLT : Hid (wr.rangeLeft b w.heap.size = cnt) := hrg.left_eq
      have htop : topN ss ≤ 1000 := topN_upto (fun y hy => HFX.out.2.1 y ((hso.2 y).1 hy).1.1)
      obtain ⟨T, hT⟩ : ∃ T, topN ss = T := ⟨_, rfl⟩
      rw [hT] at hrow2 htop
      have HTT : Hid (topN ss = T) := hT
      have hsx : (⟨x.toArray⟩ : ByteArray).size = x.length := by simp [ByteArray.size]
      rw [encStr_string]
      clear hs2 hst hso hkey hv hat ex hrow hg2 hT hrg hnx hsz
      obtain ⟨a3, c3, rfl⟩ := own_form hrow2
      go_wp2
      go_loopw [3] (fun v W => ∃ j : Nat, T + j ≤ max T x.length ∧ W.ownsRow (w.heap.size + 1) 3 1 v (T + j) ((vecOf ss ++ List.replicate j 0).map (Value.int .i64)) ∧
          W.ranges Tryz.prog 9 (plainElem Tryz.prog 3) b w.heap.size F.length D (fun z => left z && !z.sameKey (.string x)) cnt2 ∧ Below w.heap.size w W ∧ w.heap.size + 1 ≤ W.heap.size)
        (fun v _ => x.length - sliceLen v)
      case atStart => exact ⟨0, by omega, by simpa using hrow2, hrg2, hB2, hsz2⟩
      case round =>
        obtain ⟨j, hj, hown, hrg3, hB3, hsz3⟩ := hrel
        obtain ⟨a4, c4, rfl⟩ := own_form hown
        by_cases hlo : T + j < x.length
        · have hlb : decide (((T + j : Nat) : Int) < (x.length : Int)) = true := decide_eq_true (by omega)
          have hne1 := row_ne_low hown (show b < w.heap.size + 1 by omega)
          have hne2 := row_ne_iter hown hrg3
          clear hrow2 hrg2
          go_wp2_with (first
            | (at_builtin; refine wpList_append_slice rfl (.tmp 16) (.tmp 17) 39 rfl (w.heap.size + 1) 3 i0 (.int .i64 0) 8 Tryz.underlying39 hi hz0 hz1 hz2 rfl _ _ _ rfl (hown.alloc _) _ [.int .i64 0] rfl (slice_one _ _ _) (by simp [Value.oneCell']) (by simp; omega) (by unfold maxLen; simp; omega) (by simp; omega) ?_; intro v4 w4 hown4 hg4 hl4)
            | go_in)
          (try go_frame)
          have hrg4 := (hrg3.alloc (.cells #[.int .i64 0] 3)).kept hg4 hne1 hne2
          have hown5 : w4.ownsRow (w.heap.size + 1) 3 1 v4 (T + (j + 1)) ((vecOf ss ++ List.replicate (j + 1) 0).map (Value.int .i64)) := by rw [pad_succ]; exact hown4
          obtain ⟨a5, c5, rfl⟩ := own_form hown5
          have hB4 : Below w.heap.size w w4 := (hB3.alloc hB3.size _).grown hg4 (by have := hB3.size; simp; omega) (fun j hj => by have := (hown.lt j hj).1; omega)
          have hs4 : w.heap.size + 1 ≤ w4.heap.size := by have := hg4.size; simp at this; omega
          clear hown4 hg4 hl4
          go_roundw
          case rel => exact ⟨j + 1, by omega, hown5, hrg4, hB4, hs4⟩
          case measure => simp [sliceLen]; omega
        · have hlb : decide (((T + j : Nat) : Int) < (x.length : Int)) = false := decide_eq_false (by omega)
          have hje : j = x.length - T := by omega
          obtain ⟨g, c5, e5, -, -⟩ := hown.form (by omega)
          cases e5
          obtain ⟨L, hL⟩ : ∃ L, x.length = L + 1 := ⟨x.length - 1, by omega⟩
          have HL : Hid (x.length = L + 1) := hL
          have hnum : ((x.length : Int) - 1) = (L : Int) := by omega
          have hlt5 : L < T + j := by omega
          have hcell := hown.cellAt L (by omega)
          have hget := pad_get ss j L (by rw [HTT.out]; omega)
          have hcb : _root_.Go.Proofs.YtldknhganoiajaaGreatDoor.cnt ss L ≤ 100000 := by have := cnt_le ss L; omega
          obtain ⟨c0, hc0⟩ : ∃ c, _root_.Go.Proofs.YtldknhganoiajaaGreatDoor.cnt ss L = c := ⟨_, rfl⟩
          rw [hc0] at hget hcb
          rw [List.getElem?_map, hget, Option.map_some] at hcell
          have hfz := hown.frozenAt L
          have hst := hown.stored L (.int .i64 ((c0 : Int) + 1))
          have hrg5 := hrg3.kept hst.2 (row_ne_low hown (show b < w.heap.size + 1 by omega)) (row_ne_iter hown hrg3)
          have hB5 : Below w.heap.size w (wr.setCell ⟨g, L, none⟩ (.int .i64 ((c0 : Int) + 1))) := hB3.setCell (p := ⟨g, L, none⟩) (by have := (hown.lt g rfl).1; show w.heap.size ≤ g; omega) _
          have hs5 : w.heap.size + 1 ≤ (wr.setCell ⟨g, L, none⟩ (.int .i64 ((c0 : Int) + 1))).heap.size := by rw [World.size_setCell]; exact hsz3
          have hO5 : (wr.setCell ⟨g, L, none⟩ (.int .i64 ((c0 : Int) + 1))).ownsRow (w.heap.size + 1) 3 1 (.slice (some ⟨g, 0, none⟩) (T + j) c4) (topN (ss ++ [x])) ((vecOf (ss ++ [x])).map (Value.int .i64)) := by
            have e1 : topN (ss ++ [x]) = T + j := by rw [topN_snoc, HTT.out]; omega
            rw [e1, ← vec_stored (HFX.out.2.2 x hxF) (j := j) (by rw [HTT.out]; omega) (c := (c0 : Int)) (by rw [hL, Nat.add_sub_cancel, hget, Option.getD_some]), hL, Nat.add_sub_cancel]
            exact hst.1
          have HO5 : Hid ((wr.setCell ⟨g, L, none⟩ (.int .i64 ((c0 : Int) + 1))).ownsRow (w.heap.size + 1) 3 1 (.slice (some ⟨g, 0, none⟩) (T + j) c4) (topN (ss ++ [x])) ((vecOf (ss ++ [x])).map (Value.int .i64))) := hO5
          have HR5 : Hid ((wr.setCell ⟨g, L, none⟩ (.int .i64 ((c0 : Int) + 1))).ranges Tryz.prog 9 (plainElem Tryz.prog 3) b w.heap.size F.length D (fun z => left z && !z.sameKey (.string x)) cnt2) := hrg5
          clear hO5 hst hrg5 hrg3 hown hget hc0 hL hje hrow2 hrg2 HL
          go_wp2
          go_roundw
          case rel => exact ⟨_, cnt2, ss ++ [x], HR5.out, by simp; omega, HO5.out, HST.out, hB5, hs5⟩
          case measure => rw [HR5.out.left_eq, HLT.out]; exact hlt

end Go.Proofs.YtldknhganoiajaaGreatDoor
