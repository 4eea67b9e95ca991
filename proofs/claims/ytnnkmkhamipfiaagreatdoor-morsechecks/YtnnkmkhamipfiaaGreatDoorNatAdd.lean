/- Numbers of any size as words, the least one first. No Go here. Numbers of any size in memory (whole.Nat): how they read. whole.addInto: what is added in place. -/
import Derived.Test.YtnnkmkhamipfiaaGreatDoorProg
import Derived.Test.YtnnkmkhamipfiaaGreatDoorBase
import Derived.Test.YtnnkmkhamipfiaaGreatDoorRefPart
import Derived.Test.YtnnkmkhamipfiaaGreatDoorTab
import Derived.Laws.CopyOwn
import Derived.Deep.OwnRows
import Derived.Laws.Externs
import Derived.Shelf.Spec.BitsCarry
import Derived.Deep.DeepCutAuto
namespace Go.Proofs.YtnnkmkhamipfiaaGreatDoor

/-- A word's numbers: how many there are. -/
abbrev WB : Nat := 18446744073709551616
/-- The number that words tell, the least one first. -/
def vF (F : Nat → Nat) : Nat → Nat
  | 0 => 0
  | k + 1 => vF F k + WB ^ k * F k
def digs (F : Nat → Nat) (n : Nat) : Prop := ∀ k, k < n → F k < WB
theorem vF_congr {F G : Nat → Nat} : ∀ {n : Nat}, (∀ k, k < n → F k = G k) → vF F n = vF G n
  | 0, _ => rfl
  | n + 1, h => by rw [vF, vF, vF_congr (fun k hk => h k (by omega)), h n (by omega)]
theorem vF_lt {F : Nat → Nat} : ∀ {n : Nat}, digs F n → vF F n < WB ^ n
  | 0, _ => by simp [vF]
  | n + 1, h => by
    have ih := vF_lt (F := F) (n := n) fun k hk => h k (by omega)
    have hd := h n (by omega)
    rw [vF, Nat.pow_succ]
    have h2 : WB ^ n * F n + WB ^ n ≤ WB ^ n * WB := by
      rw [← Nat.mul_succ]
      exact Nat.mul_le_mul_left _ hd
    omega
theorem vF_zeros {F : Nat → Nat} {n : Nat} : ∀ {m : Nat}, n ≤ m → (∀ k, n ≤ k → k < m → F k = 0) → vF F m = vF F n
  | 0, h, _ => by rw [show n = 0 by omega]
  | m + 1, h, hz => by
    rcases Nat.lt_or_ge m n with h1 | h1
    · rw [show n = m + 1 by omega]
    · rw [vF, hz m h1 (by omega), Nat.mul_zero, Nat.add_zero, vF_zeros h1 fun k h2 h3 => hz k h2 (by omega)]
theorem vF_ge {F : Nat → Nat} {n : Nat} (h0 : 0 < n) (h : F (n - 1) ≠ 0) : WB ^ (n - 1) ≤ vF F n := by
  obtain ⟨m, rfl⟩ : ∃ m, n = m + 1 := ⟨n - 1, by omega⟩
  rw [Nat.add_sub_cancel] at h ⊢
  rw [vF]
  have := Nat.mul_le_mul_left (WB ^ m) (show 1 ≤ F m by omega)
  rw [Nat.mul_one] at this
  omega
theorem vF_pos {F : Nat → Nat} {n : Nat} (h0 : 0 < n) (h : F (n - 1) ≠ 0) : 0 < vF F n := by
  have h1 := vF_ge h0 h
  have h2 : 0 < WB ^ (n - 1) := Nat.pow_pos (by decide)
  omega
/-- Fewer words tell less. -/
theorem vF_fewer {F G : Nat → Nat} {n m : Nat} (hF : digs F n) (hG : G (m - 1) ≠ 0) (h : n < m) : vF F n < vF G m := by
  have h1 := vF_lt hF
  have h2 := vF_ge (F := G) (show 0 < m by omega) hG
  have h3 : WB ^ n ≤ WB ^ (m - 1) := Nat.pow_le_pow_right (by decide) (by omega)
  omega
theorem vF_one {F : Nat → Nat} {n : Nat} (hF : 0 < n → F (n - 1) ≠ 0) (h : vF F n < WB) : n ≤ 1 := by
  refine Nat.le_of_not_lt fun h0 => ?_
  have h1 := vF_ge (F := F) (show 0 < n by omega) (hF (by omega))
  have h2 : WB ^ 1 ≤ WB ^ (n - 1) := Nat.pow_le_pow_right (by decide) (by omega)
  rw [Nat.pow_one] at h2
  omega
theorem vF_more {F G : Nat → Nat} {i : Nat} (h : vF F (i + 1) < vF G (i + 1)) : ∀ {n : Nat}, i < n → (∀ k, i < k → k < n → F k = G k) → vF F n < vF G n
  | 0, h1, _ => by omega
  | n + 1, h1, h2 => by
    rcases Nat.lt_or_ge i n with h3 | h3
    · have ih := vF_more h h3 fun k a b => h2 k a (by omega)
      rw [vF, vF, h2 n h3 (by omega)]
      omega
    · rw [show n = i by omega]; exact h
/-- Words that are alike above a place: what stands there decides. -/
theorem vF_top {F G : Nat → Nat} {n i : Nat} (hF : digs F n) (hi : i < n) (hlt : F i < G i) (hs : ∀ k, i < k → k < n → F k = G k) : vF F n < vF G n := by
  refine vF_more (i := i) ?_ hi hs
  have h1 := vF_lt (F := F) (n := i) fun k hk => hF k (by omega)
  rw [vF, vF]
  have h2 := Nat.mul_le_mul_left (WB ^ i) (Nat.succ_le_of_lt hlt)
  rw [Nat.mul_succ] at h2
  omega
/-- One step of a sum. -/
theorem add_step {P S T c x y s : Nat} (h : S + P * c = T) (hs : x + y + c = s) : S + P * (s % WB) + P * WB * (s / WB) = T + P * x + P * y := by
  have e : s % WB + WB * (s / WB) = s := Nat.mod_add_div s WB
  have h1 : P * (s % WB) + P * WB * (s / WB) = P * s := by rw [Nat.mul_assoc, ← Nat.mul_add, e]
  have h2 : P * s = P * x + P * y + P * c := by rw [← hs, Nat.mul_add, Nat.mul_add]
  omega

end Go.Proofs.YtnnkmkhamipfiaaGreatDoor

namespace Go.Proofs.YtnnkmkhamipfiaaGreatDoor
open Go.RowKit Go.Sort

/-- More than any number that is spoken of. -/
def natTopN : Nat := 1000
def NatTop : Nat := WB ^ natTopN
theorem wb_top : WB ≤ NatTop := by
  unfold NatTop
  have : WB ^ 1 ≤ WB ^ natTopN := Nat.pow_le_pow_right (by decide) (by unfold natTopN; omega)
  rwa [Nat.pow_one] at this
/-- A slice of words: how many, and which. -/
def WordsAt (W : World) (v : Value) (n : Nat) (F : Nat → Nat) : Prop := ∃ a cap, v = .slice a n cap ∧ n ≤ cap ∧ (0 < n → ∃ b o, a = some ⟨b, o, none⟩ ∧ ∀ k, k < n → W.cell? ⟨b, o + k, none⟩ = some (.int .u64 (F k : Int)))
/-- A number: its words, the last one not 0. -/
def NatAt (W : World) (v : Value) (x : Nat) : Prop := ∃ n F, WordsAt W v n F ∧ digs F n ∧ (0 < n → F (n - 1) ≠ 0) ∧ vF F n = x
theorem WordsAt.below {W W' : World} {v : Value} {n : Nat} {F : Nat → Nat} (h : WordsAt W v n F) (hB : Below W.heap.size W W') : WordsAt W' v n F := by
  obtain ⟨a, cap, e, hc, hx⟩ := h
  refine ⟨a, cap, e, hc, fun h0 => ?_⟩
  obtain ⟨b, o, e1, e2⟩ := hx h0
  exact ⟨b, o, e1, fun k hk => (hB.cell (p := ⟨b, o + k, none⟩) (cell_lt (e2 k hk))).trans (e2 k hk)⟩
theorem NatAt.below {W W' : World} {v : Value} {x : Nat} (h : NatAt W v x) (hB : Below W.heap.size W W') : NatAt W' v x := by
  obtain ⟨n, F, h1, h2⟩ := h
  exact ⟨n, F, h1.below hB, h2⟩
theorem NatAt.len {n : Nat} {F : Nat → Nat} (h : 0 < n → F (n - 1) ≠ 0) (hx : vF F n < NatTop) : n ≤ 1000 := by
  refine Nat.le_of_not_lt fun h0 => ?_
  have h1 := vF_ge (F := F) (show 0 < n by omega) (h (by omega))
  have h2 : WB ^ natTopN ≤ WB ^ (n - 1) := Nat.pow_le_pow_right (by decide) (by unfold natTopN; omega)
  unfold NatTop at hx
  omega
theorem NatAt.nil (W : World) : NatAt W (.slice none 0 0) 0 := ⟨0, fun _ => 0, ⟨none, 0, rfl, Nat.le_refl _, fun h => absurd h (Nat.lt_irrefl _)⟩, fun _ hk => absurd hk (Nat.not_lt_zero _), fun h => absurd h (Nat.lt_irrefl _), rfl⟩
/-- Words in a block of their own, from its start on. -/
theorem NatAt.row {W : World} {g n N cap : Nat} {F : Nat → Nat} (h : W.rowIs g 128 N (fun j => .int .u64 (F j : Int))) (hn : n ≤ N) (hc : n ≤ cap) (hd : digs F n) (hl : 0 < n → F (n - 1) ≠ 0) : NatAt W (.slice (some ⟨g, 0, none⟩) n cap) (vF F n) :=
  ⟨n, F, ⟨_, cap, rfl, hc, fun _ => ⟨g, 0, rfl, fun k hk => by rw [Nat.zero_add]; exact h.cell (by omega)⟩⟩, hd, hl, rfl⟩
/-- A number as a value: a slice. -/
theorem NatAt.form {W : World} {v : Value} {x : Nat} (h : NatAt W v x) : ∃ a n c, v = .slice a n c := by
  obtain ⟨n, F, ⟨a, cap, e, -⟩, -⟩ := h
  exact ⟨a, n, cap, e⟩

set_option maxRecDepth 100000 in
theorem trim_ {g o N cap : Nat} {F : Nat → Nat} (w : World) (hc : ∀ k, k < N → w.cell? ⟨g, o + k, none⟩ = some (.int .u64 (F k : Int))) (hcap : N ≤ cap) (h9 : N ≤ 100000) :
    Calls Tryz.prog 100 #[.slice (some ⟨g, o, none⟩) N cap] w fun e w' => w' = w ∧ ∃ n, n ≤ N ∧ e = .returned (.slice (some ⟨g, o, none⟩) n cap) ∧ (∀ k, n ≤ k → k < N → F k = 0) ∧ (0 < n → F (n - 1) ≠ 0) := by
  have HC := Hid.mk' hc
  clear hc
  go_enter Tryz.func100, Tryz.ntmps100
  go_wp2_with fail
  go_loopw [3] (fun p W => ∃ n : Nat, n ≤ N ∧ p = .int .i64 (n : Int) ∧ W = w ∧ Hid (∀ k, n ≤ k → k < N → F k = 0)) (fun p _ => (intOf p).toNat)
  case atStart => exact ⟨N, Nat.le_refl _, rfl, rfl, fun k h1 h2 => by omega⟩
  case round =>
    obtain ⟨n, hn, rfl, rfl, HZ⟩ := hrel
    rcases Nat.eq_zero_or_pos n with h0 | h0
    · subst h0
      go_wp2_with fail
      go_ret
      exact ⟨rfl, 0, by omega, rfl, HZ.out, fun h => absurd h (Nat.lt_irrefl _)⟩
    · obtain ⟨m, rfl⟩ : ∃ m, n = m + 1 := ⟨n - 1, by omega⟩
      have hcm := HC.out m (by omega)
      have y0 : (0 : Int) ≤ (m : Int) := by omega
      have y1 : (m : Int) < (N : Int) := by omega
      have y2 : (0 : Int) < (m : Int) + 1 := by omega
      by_cases hz : F m = 0
      · rw [hz] at hcm
        have HZ2 : Hid (∀ k, m ≤ k → k < N → F k = 0) := fun k h1 h2 => by
          rcases Nat.lt_or_ge m k with h3 | h3
          · exact HZ.out k h3 h2
          · rw [show k = m by omega]; exact hz
        clear hz
        go_wp2_with fail
        go_roundw
        case rel => exact ⟨m, by omega, by go_num, trivial, HZ2.out⟩
        case measure => first | (simp [intOf]; done) | (simp [intOf]; omega)
      · have HF : Hid (F m ≠ 0) := hz
        obtain ⟨x, hx⟩ : ∃ x, F m = x := ⟨_, rfl⟩
        rw [hx] at hcm hz
        have hb : ((x : Int) == 0) = false := beq_false_of_ne (by omega)
        clear hx hz
        go_wp2_with fail
        go_ret
        exact ⟨rfl, m + 1, by omega, rfl, HZ.out, fun _ => HF.out⟩

end Go.Proofs.YtnnkmkhamipfiaaGreatDoor

namespace Go.Proofs.YtnnkmkhamipfiaaGreatDoor
open Go.RowKit Go.Sort

theorem add64_ (x y c : Nat) (hc : c ≤ 1) (w : World) :
    (callFunc 123 #[.int .u64 (x : Int), .int .u64 (y : Int), .int .u64 (c : Int)]).run Tryz.prog w = .ok (.value (.tuple #[.int .u64 (((x + y + c) % WB : Nat) : Int), .int .u64 (((x + y + c) / WB : Nat) : Int)])) w := by
  rw [run_callFunc_extern Tryz.func123 (by kernel_rfl) (by kernel_rfl) (by kernel_rfl) (e := add64Entry) (by kernel_rfl), run_add64 x y c (by omega) (by omega) (by omega) (by omega)]
  simp only [Result.andThen]
  congr 5 <;> omega
theorem sub64_ (x y b : Nat) (hb : b ≤ 1) (w : World) :
    (callFunc 124 #[.int .u64 (x : Int), .int .u64 (y : Int), .int .u64 (b : Int)]).run Tryz.prog w = .ok (.value (.tuple #[.int .u64 (((x + WB - y - b) % WB : Nat) : Int), .int .u64 ((if x < y + b then 1 else 0 : Nat) : Int)])) w := by
  rw [run_callFunc_extern Tryz.func124 (by kernel_rfl) (by kernel_rfl) (by kernel_rfl) (e := sub64Entry) (by kernel_rfl), run_sub64 x y b hb]
  rfl

/-- Words that lie elsewhere than in a block. -/
def WordsBut (g : Nat) (W : World) (v : Value) (n : Nat) (F : Nat → Nat) : Prop := ∃ a cap, v = .slice a n cap ∧ n ≤ cap ∧ (0 < n → ∃ b o, a = some ⟨b, o, none⟩ ∧ b ≠ g ∧ ∀ k, k < n → W.cell? ⟨b, o + k, none⟩ = some (.int .u64 (F k : Int)))
theorem WordsAt.but {W : World} {v : Value} {n : Nat} {F : Nat → Nat} (h : WordsAt W v n F) {g : Nat} (hg : W.heap.size ≤ g) : WordsBut g W v n F := by
  obtain ⟨a, cap, e, hc, hx⟩ := h
  refine ⟨a, cap, e, hc, fun h0 => ?_⟩
  obtain ⟨b, o, e1, e2⟩ := hx h0
  refine ⟨b, o, e1, fun e => ?_, e2⟩
  have h3 : b < W.heap.size := cell_lt (e2 0 h0)
  omega
theorem WordsBut.below {g : Nat} {W W' : World} {v : Value} {n : Nat} {F : Nat → Nat} (h : WordsBut g W v n F) (hB : Below W.heap.size W W') : WordsBut g W' v n F := by
  obtain ⟨a, cap, e, hc, hx⟩ := h
  refine ⟨a, cap, e, hc, fun h0 => ?_⟩
  obtain ⟨b, o, e1, e3, e2⟩ := hx h0
  exact ⟨b, o, e1, e3, fun k hk => (hB.cell (p := ⟨b, o + k, none⟩) (cell_lt (e2 k hk))).trans (e2 k hk)⟩
def upTo0 (G : Nat → Nat) (m k : Nat) : Nat := if k < m then G k else 0
theorem vF_upTo0 (G : Nat → Nat) {m i : Nat} (h : m ≤ i) : vF (upTo0 G m) i = vF G m := by
  rw [vF_zeros h fun k h1 _ => by unfold upTo0; rw [if_neg (by omega)]]
  exact vF_congr fun k hk => by unfold upTo0; rw [if_pos hk]
theorem vF_tail {F F' : Nat → Nat} {i : Nat} : ∀ {n : Nat}, i ≤ n → (∀ k, i ≤ k → k < n → F' k = F k) → vF F' n + vF F i = vF F n + vF F' i
  | 0, h, _ => by rw [show i = 0 by omega]; exact Nat.add_comm _ _
  | n + 1, h, hs => by
    rcases Nat.lt_or_ge n i with h1 | h1
    · rw [show i = n + 1 by omega]; omega
    · have ih := vF_tail h1 fun k a b => hs k a (by omega)
      rw [vF, vF, hs n h1 (by omega)]
      omega
theorem carry_le {x y c : Nat} (hx : x < WB) (hy : y < WB) (hc : c ≤ 1) : (x + y + c) / WB ≤ 1 := by
  unfold WB at *
  omega
/-- How far a sum in place has come. -/
structure NatAddAt (w : World) (g N : Nat) (F G : Nat → Nat) (m i c : Nat) (W : World) (F' : Nat → Nat) : Prop where
  row : W.rowIs g 128 N (fun j => .int .u64 (F' j : Int))
  digs : digs F' N
  rest : ∀ k, i ≤ k → k < N → F' k = F k
  sum : vF F' i + WB ^ i * c = vF F i + vF (upTo0 G m) i
  kept : w.grownBy W (some g)
theorem NatAddAt.step {w : World} {g N : Nat} {F G : Nat → Nat} {m i c : Nat} {W : World} {F' : Nat → Nat} (h : NatAddAt w g N F G m i c W F') (_hi : i < N) {s : Nat} (hs : F i + upTo0 G m i + c = s) :
    NatAddAt w g N F G m (i + 1) (s / WB) (W.setCell ⟨g, i, none⟩ (.int .u64 ((s % WB : Nat) : Int))) (fun j => if j = i then s % WB else F' j) where
  row := by
    refine (h.row.set i _).congr fun j _ => ?_
    by_cases e : j = i <;> simp [e]
  digs := fun k hk => by
    show (if k = i then s % WB else F' k) < WB
    by_cases e : k = i
    · rw [if_pos e]; exact Nat.mod_lt _ (by decide)
    · rw [if_neg e]; exact h.digs k hk
  rest := fun k h1 h2 => by
    show (if k = i then s % WB else F' k) = F k
    rw [if_neg (by omega)]; exact h.rest k (by omega) h2
  sum := by
    have e : vF (fun j => if j = i then s % WB else F' j) i = vF F' i := vF_congr fun k hk => by rw [if_neg (by omega)]
    rw [vF, vF, vF, e, if_pos rfl, Nat.pow_succ]
    have := add_step (x := F i) (y := upTo0 G m i) h.sum hs
    omega
  kept := h.kept.trans ⟨rfl, rfl, rfl, by simp, fun k _ hk => Below.heap_setCell W ⟨g, i, none⟩ _ k (fun e => hk (by rw [e]))⟩

set_option maxRecDepth 100000 in
set_option maxHeartbeats 1000000 in
theorem addInto_ {g N cap m : Nat} {F G : Nat → Nat} {vb : Value} (w : World) (hr : w.rowIs g 128 N (fun j => .int .u64 (F j : Int))) (hcap : N ≤ cap) (hm : m ≤ N) (hb : WordsBut g w vb m G) (hF : digs F N) (hG : digs G m) (h9 : N ≤ 100000) :
    Calls Tryz.prog 101 #[.slice (some ⟨g, 0, none⟩) N cap, vb] w fun e w' => ∃ (F' : Nat → Nat) (c : Nat), e = .returned (.int .u64 (c : Int)) ∧ c ≤ 1 ∧ w'.rowIs g 128 N (fun j => .int .u64 (F' j : Int)) ∧ digs F' N ∧ vF F' N + WB ^ N * c = vF F N + vF G m ∧ w.grownBy w' (some g) := by
  obtain ⟨ab, cb, rfl, hmb, hx⟩ := hb
  have HX : Hid (∀ W k, w.grownBy W (some g) → k < m → ∃ b o, ab = some ⟨b, o, none⟩ ∧ W.cell? ⟨b, o + k, none⟩ = some (.int .u64 (G k : Int))) := fun W k hW hk => by
    obtain ⟨b, o, e1, e2, e3⟩ := hx (by omega)
    refine ⟨b, o, e1, ?_⟩
    rw [World.cell?_of_block (hW.block b (cell_lt (e3 k hk)) (fun e => e2 (Option.some.inj e)))]
    exact e3 k hk
  have HS : Hid (NatAddAt w g N F G m 0 0 w F) := ⟨hr, hF, fun _ _ _ => rfl, by simp [vF], World.grownBy.refl _ _⟩
  have HG := Hid.mk' hG
  clear hx hr hF hG
  go_enter Tryz.func101, Tryz.ntmps101
  go_wp2_with fail
  go_loopw [5, 10] (fun pc p W => ∃ i c : Nat, i ≤ N ∧ c ≤ 1 ∧ pc = .int .u64 (c : Int) ∧ p = .int .i64 (i : Int) ∧ Hid (∃ F', NatAddAt w g N F G m i c W F')) (fun _ p _ => N - (intOf p).toNat)
  case atStart => exact ⟨0, 0, by omega, by omega, rfl, rfl, F, HS.out⟩
  case round =>
    obtain ⟨i, c, hi, hc, rfl, rfl, HA⟩ := hrel
    obtain ⟨F', hA⟩ := HA.out
    have HA' := Hid.mk' hA
    by_cases hiN : i < N
    · have y0 : (0 : Int) ≤ (i : Int) := by omega
      have y1 : (i : Int) < (N : Int) := by omega
      have ca := hA.row.cell hiN
      have fz := hA.row.frozen i
      rw [hA.rest i (Nat.le_refl _) hiN] at ca
      clear hA HA
      have hxl : F i < WB := by
        have := HA'.out.digs i hiN
        rwa [HA'.out.rest i (Nat.le_refl _) hiN] at this
      obtain ⟨x, hx1⟩ : ∃ x, F i = x := ⟨_, rfl⟩
      rw [hx1] at ca hxl
      by_cases him : i < m
      · obtain ⟨b, o, rfl, cb2⟩ := HX.out wr i HA'.out.kept him
        have hyl := HG.out i him
        obtain ⟨y, hy1⟩ : ∃ y, G i = y := ⟨_, rfl⟩
        have HST := Hid.mk' (HA'.out.step hiN (s := x + y + c) (by rw [hx1]; unfold upTo0; rw [if_pos him, hy1]))
        rw [hy1] at cb2 hyl
        have hadd := add64_ x y c hc
        have hh1 := carry_le hxl hyl hc
        obtain ⟨lo, hlo⟩ : ∃ lo, (x + y + c) % WB = lo := ⟨_, rfl⟩
        obtain ⟨hi2, hhi⟩ : ∃ h, (x + y + c) / WB = h := ⟨_, rfl⟩
        rw [hlo, hhi] at hadd HST
        rw [hhi] at hh1
        have him2 : (i : Int) < (m : Int) := by omega
        clear hx1 hy1 hlo hhi HA' hxl hyl
        go_wp2_with (simp only [hadd])
        go_roundw
        case rel => exact ⟨i + 1, hi2, by omega, hh1, rfl, by go_num, _, HST.out⟩
        case measure => simp [intOf]; omega
      · have him2 : ¬ ((i : Int) < (m : Int)) := by omega
        have him3 : (m : Int) ≤ (i : Int) := by omega
        rcases Nat.eq_zero_or_pos c with h0 | h0
        · subst h0
          have HE : Hid (vF F' N + WB ^ N * 0 = vF F N + vF G m) := by
            have h1 := vF_tail hi HA'.out.rest
            have h2 := HA'.out.sum
            rw [vF_upTo0 G (by omega), Nat.mul_zero] at h2
            show _ = _
            rw [Nat.mul_zero]
            omega
          clear hx1 hxl ca fz
          go_wp2_with fail
          go_ret
          exact ⟨F', 0, rfl, by omega, HA'.out.row, HA'.out.digs, HE.out, HA'.out.kept⟩
        · obtain rfl : c = 1 := by omega
          have HST := Hid.mk' (HA'.out.step hiN (s := x + 0 + 1) (by rw [hx1]; unfold upTo0; rw [if_neg him]))
          have hadd : ∀ V, (callFunc 123 #[.int .u64 (x : Int), .int .u64 0, .int .u64 1]).run Tryz.prog V = .ok (.value (.tuple #[.int .u64 (((x + 0 + 1) % WB : Nat) : Int), .int .u64 (((x + 0 + 1) / WB : Nat) : Int)])) V := add64_ x 0 1 (by omega)
          have hh1 := carry_le hxl (show 0 < WB by decide) (Nat.le_refl 1)
          obtain ⟨lo, hlo⟩ : ∃ lo, (x + 0 + 1) % WB = lo := ⟨_, rfl⟩
          obtain ⟨hi2, hhi⟩ : ∃ h, (x + 0 + 1) / WB = h := ⟨_, rfl⟩
          rw [hlo, hhi] at hadd HST
          rw [hhi] at hh1
          clear hx1 hlo hhi HA' hxl
          go_wp2_with (simp only [hadd])
          go_roundw
          case rel => exact ⟨i + 1, hi2, by omega, hh1, rfl, by go_num, _, HST.out⟩
          case measure => simp [intOf]; omega
    · obtain rfl : i = N := by omega
      have HE : Hid (vF F' i + WB ^ i * c = vF F i + vF G m) := by
        have h2 := HA'.out.sum
        rw [vF_upTo0 G hm] at h2
        exact h2
      clear hA HA
      go_wp2_with fail
      go_ret
      exact ⟨F', c, rfl, hc, HA'.out.row, HA'.out.digs, HE.out, HA'.out.kept⟩

end Go.Proofs.YtnnkmkhamipfiaaGreatDoor
