/- What is done to rows: a number turned, asked, rows added, the first number, what is told. -/
import Derived.Test.YtiblgnkjjbbmaaaDoorCupRow
namespace Go.Proofs.YtiblgnkjjbbmaaaDoor
open Go.RowKit Go.Sort

theorem shl_one {k : Nat} (h : k < 64) : IntKind.u64.wrap (2 ^ k) = ((2 ^ k : Nat) : Int) := by
  have h2 : 2 ^ k < 2 ^ 64 := Nat.pow_lt_pow_right (by decide) h
  rw [IntKind.wrap_u64]
  have e : (2 : Int) ^ k = ((2 ^ k : Nat) : Int) := by simp
  rw [e]
  generalize 2 ^ k = q at h2 ⊢
  omega
theorem bit_word (x k : Nat) : ((x : Int) / 2 ^ k) = ((x / 2 ^ k : Nat) : Int) := by
  have e : (2 : Int) ^ k = ((2 ^ k : Nat) : Int) := by simp
  rw [e]; rfl
theorem and_one (x k : Nat) (hx : x < 2 ^ 64) : bits .and .u64 ((x / 2 ^ k : Nat) : Int) 1 = (if x.testBit k = true then 1 else 0) := by
  have h1 : x / 2 ^ k < 2 ^ 64 := Nat.lt_of_le_of_lt (Nat.div_le_self _ _) hx
  have := bits_and_u64_nat (x / 2 ^ k) 1 h1 (by decide)
  rw [show ((1 : Nat) : Int) = 1 from rfl] at this
  rw [this, Nat.testBit_eq_decide_div_mod_eq, Nat.and_one_is_mod]
  have := Nat.mod_two_eq_zero_or_one (x / 2 ^ k)
  rcases this with h | h <;> simp [h]
theorem flip_lt {n x p : Nat} (h : x < 2 ^ n) (hp : p < n) : x ^^^ 2 ^ p < 2 ^ n := xor_lt h (Nat.pow_lt_pow_right (by decide) hp)

theorem grown_word (W : World) (p : Addr) (v : Value) : W.grownBy (W.setCell p v) (some p.block) := ⟨rfl, rfl, rfl, by simp, fun k _ hk => Below.heap_setCell W p v k (fun e => hk (by rw [e]))⟩
theorem grown_drew {w W : World} {row : Option Nat} (h : w.grownBy W row) : w.grownBy W.drew row := ⟨h.os, h.tape, h.output, h.size, h.block⟩
/-- A word is written into a row. -/
theorem WordIn.write {S : Nat → Prop} {w : World} {b c n x y : Nat} (h : WordIn S w (.slice (some ⟨b, 0, none⟩) 1 c) n x) (hy : y < 2 ^ n) (h0 : 0 < n) : WordIn S (w.setCell ⟨b, 0, none⟩ (.int .u64 (y : Int))) (.slice (some ⟨b, 0, none⟩) 1 c) n y := by
  obtain ⟨h1, h2, ⟨h3, -⟩ | ⟨h3, b', c', e, hc, hb, hl, h4, h5⟩⟩ := h
  · omega
  · cases e
    exact ⟨hy, h2, .inr ⟨h3, b, c, rfl, hc, hb, by rw [World.size_setCell]; exact hl, World.cell?_setCell_same' _ _ _ (by rw [h4]; rfl), by rw [World.frozen?_setCell]; exact h5⟩⟩

set_option maxRecDepth 100000 in
set_option maxHeartbeats 1000000 in
theorem flip_ {S : Nat → Prop} (v : Value) (n x p : Nat) (w : World) (h : WordIn S w v n x) (hp : p < n) :
    Calls Tryd.prog 39 #[v, .int .i64 (p : Int)] w fun e w' => e = .returned (.tuple #[]) ∧ WordIn S w' v n (x ^^^ 2 ^ p) ∧ w.grownBy w' v.ownBlock ∧ w'.heap.size = w.heap.size := by
  have hlt := h.lt
  have hh := h
  obtain ⟨h1, h2, ⟨h3, -⟩ | ⟨h3, b, c, rfl, hc, hb, hl, h4, h5⟩⟩ := h
  · omega
  have e1 : (p : Int).tdiv 64 = 0 := by rw [Int.tdiv_eq_ediv_of_nonneg (by omega)]; omega
  have e2 : (p : Int).tmod 64 = (p : Int) := by rw [Int.tmod_eq_emod_of_nonneg (by omega)]; omega
  have z1 : (0 : Int) ≤ (p : Int) := by omega
  have z2 : (p : Int) ≤ 64 := by omega
  have e8 : bits BinOp.xor .u64 (x : Int) (IntKind.u64.wrap (2 ^ p)) = ((x ^^^ 2 ^ p : Nat) : Int) := by
    rw [shl_one (show p < 64 by omega)]
    exact bits_xor_u64_nat x (2 ^ p) hlt (Nat.pow_lt_pow_right (by decide) (show p < 64 by omega))
  have hfl := flip_lt h1 hp
  have HE : Hid (WordIn S (w.setCell ⟨b, 0, none⟩ (.int .u64 ((x ^^^ 2 ^ p : Nat) : Int))) (.slice (some ⟨b, 0, none⟩) 1 c) n (x ^^^ 2 ^ p) ∧ w.grownBy (w.setCell ⟨b, 0, none⟩ (.int .u64 ((x ^^^ 2 ^ p : Nat) : Int))) (some b) ∧ (w.setCell ⟨b, 0, none⟩ (.int .u64 ((x ^^^ 2 ^ p : Nat) : Int))).heap.size = w.heap.size) :=
    ⟨hh.write hfl h3, grown_word w ⟨b, 0, none⟩ _, World.size_setCell _ _ _⟩
  have H8 := Hid.mk' e8
  clear h1 h2 h3 hfl e8 hh
  go_enter Tryd.func39, Tryd.ntmps39
  go_region
  all_goals go_wp2_with fail
  all_goals (refine bodyPost_end (v := .tuple #[]) ?_ rfl ?_)
  all_goals first
    | (simp [results, Tryd.f39, go_sem]; done)
    | (rw [H8.out]; exact ⟨rfl, HE.out.1.below (Below.refl _ _).drew, grown_drew HE.out.2.1, HE.out.2.2⟩)

set_option maxRecDepth 100000 in
theorem has_ {S : Nat → Prop} (v : Value) (n x p : Nat) (w : World) (h : WordIn S w v n x) (hp : p < n) :
    Calls Tryd.prog 38 #[v, .int .i64 (p : Int)] w fun e w' => e = .returned (.bool (x.testBit p)) ∧ w' = w := by
  have hlt := h.lt
  obtain ⟨h1, h2, ⟨h3, -⟩ | ⟨h3, b, c, rfl, hc, hb, hl, h4, h5⟩⟩ := h
  · omega
  have e1 : (p : Int).tdiv 64 = 0 := by rw [Int.tdiv_eq_ediv_of_nonneg (by omega)]; omega
  have e2 : (p : Int).tmod 64 = (p : Int) := by rw [Int.tmod_eq_emod_of_nonneg (by omega)]; omega
  have z1 : (0 : Int) ≤ (p : Int) := by omega
  have z2 : (p : Int) ≤ 64 := by omega
  have e8 : (bits BinOp.and .u64 ((x : Int) / 2 ^ p) 1 == 1) = x.testBit p := by
    rw [bit_word, and_one x p hlt]
    cases x.testBit p <;> rfl
  have H8 := Hid.mk' e8
  rw [← H8.out]
  clear e8 hlt h1
  go_enter Tryd.func38, Tryd.ntmps38
  go_wp2_with fail
  go_ret
  exact ⟨rfl, rfl⟩

set_option maxRecDepth 100000 in
theorem add_ {S S' : Nat → Prop} (v u : Value) (n x y : Nat) (w : World) (h : WordIn S w v n x) (h' : WordIn S' w u n y) :
    Calls Tryd.prog 26 #[v, u] w fun e w' => e = .returned (.tuple #[]) ∧ WordIn S w' v n (x ^^^ y) ∧ w.grownBy w' v.ownBlock ∧ w'.heap.size = w.heap.size ∧ (n = 0 → w' = w) := by
  have hlt := h.lt
  have hlt' := h'.lt
  have hh := h
  obtain ⟨h1, h2, ⟨h3, a, c, rfl⟩ | ⟨h3, b, c, rfl, hc, hb, hl, h4, h5⟩⟩ := h
  · obtain ⟨g1, g2, ⟨g3, a', c', rfl⟩ | ⟨g3, _⟩⟩ := h'
    · have HE : Hid (WordIn S w (.slice a 0 c) n (x ^^^ y) ∧ w.grownBy w (Value.slice a 0 c).ownBlock) := ⟨⟨xor_lt h1 g1, h2, .inl ⟨h3, a, c, rfl⟩⟩, ⟨rfl, rfl, rfl, Nat.le_refl _, fun _ _ _ => rfl⟩⟩
      clear h1 g1 hh hlt hlt'
      go_enter Tryd.func26, Tryd.ntmps26
      go_wp2_with fail
      go_loopw [8] (fun p W => p = .int .i64 0 ∧ W = w) (fun _ _ => 0)
      case atStart => exact ⟨rfl, rfl⟩
      case round =>
        obtain ⟨rfl, rfl⟩ := hrel
        go_wp2_with fail
        refine bodyPost_end (v := .tuple #[]) (by simp [results, Tryd.f26, go_sem]) rfl ⟨rfl, HE.out.1, HE.out.2, rfl, fun _ => rfl⟩
    · omega
  · obtain ⟨g1, g2, ⟨g3, _⟩ | ⟨g3, b', c', rfl, hc', hb', hl', g4, g5⟩⟩ := h'
    · omega
    have e8 := bits_xor_u64_nat x y hlt hlt'
    have HE : Hid (WordIn S (w.setCell ⟨b, 0, none⟩ (.int .u64 ((x ^^^ y : Nat) : Int))) (.slice (some ⟨b, 0, none⟩) 1 c) n (x ^^^ y) ∧ w.grownBy (w.setCell ⟨b, 0, none⟩ (.int .u64 ((x ^^^ y : Nat) : Int))) (some b) ∧ (w.setCell ⟨b, 0, none⟩ (.int .u64 ((x ^^^ y : Nat) : Int))).heap.size = w.heap.size) :=
      ⟨hh.write (xor_lt h1 g1) h3, grown_word w ⟨b, 0, none⟩ _, World.size_setCell _ _ _⟩
    obtain ⟨z, hz⟩ : ∃ z, x ^^^ y = z := ⟨_, rfl⟩
    rw [hz] at e8 HE ⊢
    clear h1 g1 hh hlt hlt' hz
    go_enter Tryd.func26, Tryd.ntmps26
    go_wp2_with fail
    go_loopw [8] (fun p W => (p = .int .i64 0 ∧ W = w) ∨ (p = .int .i64 1 ∧ W = w.setCell ⟨b, 0, none⟩ (.int .u64 (z : Int)))) (fun p _ => 1 - (intOf p).toNat)
    case atStart => exact .inl ⟨rfl, rfl⟩
    case round =>
      rcases hrel with ⟨rfl, rfl⟩ | ⟨rfl, rfl⟩
      · go_wp2_with fail
        go_roundw
        case rel => first | exact .inr ⟨rfl, rfl⟩ | simp
        case measure => simp [intOf]
      · go_wp2_with fail
        refine bodyPost_end (v := .tuple #[]) (by simp [results, Tryd.f26, go_sem]) rfl ⟨rfl, HE.out.1, HE.out.2.1, HE.out.2.2, fun e => absurd e (by omega)⟩

/-- Where a row begins: its least number, or one behind them all. -/
def firstN (n x : Nat) : Nat := if n = 0 then 0 else low x
set_option maxRecDepth 100000 in
theorem first_ {S : Nat → Prop} (v : Value) (n x : Nat) (w : World) (h : WordIn S w v n x) (hT : TabOk w) :
    Calls Tryd.prog 41 #[v] w fun e w' => e = .returned (.int .i64 (firstN n x : Int)) ∧ w' = w := by
  have hlt := h.lt
  obtain ⟨h1, h2, ⟨h3, a, c, rfl⟩ | ⟨h3, b, c, rfl, hc, hb, hl, h4, h5⟩⟩ := h
  · have HF : Hid (firstN n x = 0) := by show firstN n x = 0; unfold firstN; rw [if_pos h3]
    rw [HF.out]
    clear h1 hlt h2 h3 HF
    go_enter Tryd.func41, Tryd.ntmps41
    go_wp2_with fail
    go_loopw [7] (fun p W => p = .int .i64 0 ∧ W = w) (fun _ _ => 0)
    case atStart => exact ⟨rfl, rfl⟩
    case round =>
      obtain ⟨rfl, rfl⟩ := hrel
      go_wp2_with fail
      go_ret
      exact ⟨rfl, rfl⟩
  · rcases Nat.eq_zero_or_pos x with h0 | h0
    · subst h0
      have HF : Hid (firstN n 0 = 64) := by show firstN n 0 = 64; unfold firstN; rw [if_neg (by omega)]; rfl
      rw [HF.out]
      clear h1 hlt h2 h3 HF
      go_enter Tryd.func41, Tryd.ntmps41
      go_wp2_with fail
      go_loopw [7] (fun p W => (p = .int .i64 0 ∨ p = .int .i64 1) ∧ W = w) (fun p _ => 1 - (intOf p).toNat)
      case atStart => exact ⟨.inl rfl, rfl⟩
      case round =>
        rcases hrel with ⟨rfl | rfl, rfl⟩
        · go_wp2_with fail
          go_roundw
          case rel => simp
          case measure => simp [intOf]
        · go_wp2_with fail
          go_ret
          exact ⟨rfl, rfl⟩
    · have htz := tz_ x (by omega) hlt w hT
      have hlo := (low_bits (by omega) hlt).1
      have hne : ((x : Int) != 0) = true := by simp; omega
      have HF : Hid (firstN n x = low x) := by show firstN n x = low x; unfold firstN; rw [if_neg (by omega)]
      rw [HF.out]
      obtain ⟨k, hk⟩ : ∃ k, low x = k := ⟨_, rfl⟩
      rw [hk] at htz hlo ⊢
      clear h1 hlt hk HF
      go_enter Tryd.func41, Tryd.ntmps41
      go_wp2_with fail
      go_loopw [7] (fun p W => p = .int .i64 0 ∧ W = w) (fun p _ => 0)
      case atStart => exact ⟨rfl, rfl⟩
      case round =>
        obtain ⟨rfl, rfl⟩ := hrel
        go_wp2_with (first | (go_at_call 36; refine htz.mono ?_; rintro e V ⟨rfl, rfl⟩) | fail)
        go_ret
        exact ⟨by simp, rfl⟩

theorem firstN_zero {n x : Nat} (h : x < 2 ^ n) (hn : n ≤ 64) : firstN n x = (if n = 0 then 0 else 64) ↔ x = 0 := by
  unfold firstN
  split
  · rename_i h0
    subst h0
    simp at h
    simp [h]
  · rename_i h0
    have hx : x < 2 ^ 64 := Nat.lt_of_lt_of_le h (Nat.pow_le_pow_right (by decide) hn)
    constructor
    · intro e
      rcases Nat.eq_zero_or_pos x with h1 | h1
      · exact h1
      · have := (low_bits (by omega) hx).1; omega
    · rintro rfl; rfl

set_option maxRecDepth 100000 in
theorem isZero_ {S : Nat → Prop} (v : Value) (n x : Nat) (w : World) (h : WordIn S w v n x) (hT : TabOk w) :
    Calls Tryd.prog 28 #[v] w fun e w' => e = .returned (.bool (decide (x = 0))) ∧ w' = w := by
  have hfi := first_ v n x w h hT
  have hfz := firstN_zero h.1 h.2.1
  obtain ⟨h1, h2, ⟨h3, a, c, rfl⟩ | ⟨h3, b, c, rfl, hc, hb, hl, h4, h5⟩⟩ := h
  · have H8 : Hid (((firstN n x : Int) == 0) = decide (x = 0)) := by
      show ((firstN n x : Int) == 0) = decide (x = 0)
      rw [if_pos h3] at hfz
      rw [Bool.eq_iff_iff]; simp; omega
    rw [← H8.out]
    clear hfz h1 h2 h3
    go_enter Tryd.func28, Tryd.ntmps28
    go_wp2_with (first | (go_at_call 41; refine hfi.mono ?_; rintro e V ⟨rfl, rfl⟩) | fail)
    go_ret
    exact ⟨rfl, rfl⟩
  · have H8 : Hid (((firstN n x : Int) == 64) = decide (x = 0)) := by
      show ((firstN n x : Int) == 64) = decide (x = 0)
      rw [if_neg (by omega)] at hfz
      rw [Bool.eq_iff_iff]; simp; omega
    rw [← H8.out]
    clear hfz h1 h2 h3
    go_enter Tryd.func28, Tryd.ntmps28
    go_wp2_with (first | (go_at_call 41; refine hfi.mono ?_; rintro e V ⟨rfl, rfl⟩) | fail)
    go_ret
    exact ⟨rfl, rfl⟩

end Go.Proofs.YtiblgnkjjbbmaaaDoor
