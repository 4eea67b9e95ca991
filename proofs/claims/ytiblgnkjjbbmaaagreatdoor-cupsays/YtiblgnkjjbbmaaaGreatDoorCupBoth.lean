/- What the program and the reference say of one complex and two cochains, in one way. -/
import Derived.Test.YtiblgnkjjbbmaaaGreatDoorCupCut
import Derived.Test.YtiblgnkjjbbmaaaGreatDoorCupRefCup
import Derived.Test.YtiblgnkjjbbmaaaGreatDoorCupRefSame
import Derived.Test.YtiblgnkjjbbmaaaGreatDoorCx
import Derived.Test.YtiblgnkjjbbmaaaGreatDoorClosed
namespace Go.Proofs.YtiblgnkjjbbmaaaGreatDoor
open Go.RowKit Go.Sort

theorem SliceNilRows (w : World) : Rows w (.slice none 0 0) [] := (OwnRows.nil 0 w).rows
theorem nil_ints {V : World} {D : List Int} (h : D = []) : Ints V (.slice none 0 0) D := by subst h; exact SliceIn.nil _ _
theorem ints_put {W : World} {base : Nat} {t : TypeId} {v : Value} {x : List Int} (h : W.ownsRow base t 1 v (0 + (x.map (Value.int .i64)).length) ([] ++ x.map (Value.int .i64))) : Ints W v x := by
  rw [Nat.zero_add, List.nil_append] at h
  exact slice_of_owns h (fun _ _ _ => trivial)
theorem IntsIn.anyform {S : Nat → Prop} {W : World} {v : Value} {x : List Int} (h : IntsIn S W v x) : ∃ a n c, v = .slice a n c := by
  obtain ⟨a, c, e, -⟩ := h.open_
  exact ⟨a, _, c, e⟩

structure BothC (a : Nat → Addr) (l all : List (List Int)) (f g : List Int) (i k n1 n2 : Int) (ve1 ve2 : Value) (D C : List Int) (q1 q2 : Bool) : Prop where
  de : ∀ (s : Nat → ByteArray) (v u : Value) (V : World), Errs a s V → TabOk V → Rows V v l → Ints V u f → Calls Tryz.prog 11 #[.agg #[v], .int .i64 i, u] V fun e w' => ∃ b c, e = .returned (.tuple #[.slice b D.length c, ve1]) ∧ Ints w' (.slice b D.length c) D ∧ Below V.heap.size V w'
  cu : ∀ (s : Nat → ByteArray) (v u t : Value) (V : World), Errs a s V → TabOk V → Rows V v l → Ints V u f → Ints V t g → Calls Tryz.prog 16 #[.agg #[v], .int .i64 i, u, .int .i64 k, t] V fun e w' => ∃ b c, e = .returned (.tuple #[.slice b C.length c, ve2]) ∧ Ints w' (.slice b C.length c) C ∧ Below V.heap.size V w'
  co : ∀ (s : Nat → ByteArray) (v u : Value) (V : World), Errs a s V → TabOk V → Rows V v l → Ints V u f → Calls Tryz.prog 18 #[.agg #[v], .int .i64 i, u] V fun e w' => e = .returned (.tuple #[.bool q1, ve1]) ∧ Below V.heap.size V w'
  sa : i = k → ∀ (s : Nat → ByteArray) (v u t : Value) (V : World), Errs a s V → TabOk V → Rows V v l → Ints V u f → Ints V t g → Calls Tryz.prog 19 #[.agg #[v], .int .i64 i, u, t] V fun e w' => e = .returned (.tuple #[.bool q2, ve2]) ∧ Below V.heap.size V w'
  c1 : ∀ (s : Nat → ByteArray) (V : World), Errs a s V → Calls Tryz.prog 15 #[ve1, .int .i64 n1] V fun e w' => e = .returned (.bool true) ∧ Below V.heap.size V w'
  c2 : ∀ (s : Nat → ByteArray) (V : World), Errs a s V → Calls Tryz.prog 15 #[ve2, .int .i64 n2] V fun e w' => e = .returned (.bool true) ∧ Below V.heap.size V w'
  ro : n1 = 0 → ∀ {V : World} (vA u : Value), Rows V vA all → Ints V u f → Calls Tryz.prog 13 #[vA, .int .i64 i, u] V fun e w' => ∃ b c, e = .returned (.slice b D.length c) ∧ Ints w' (.slice b D.length c) D ∧ Below V.heap.size V w'
  rc : n2 = 0 → ∀ {V : World} (vA u t : Value), Rows V vA all → Ints V u f → Ints V t g → Calls Tryz.prog 17 #[vA, .int .i64 i, u, .int .i64 k, t] V fun e w' => ∃ b c, e = .returned (.slice b C.length c) ∧ Ints w' (.slice b C.length c) C ∧ Below V.heap.size V w'
  rs : i = k → n2 = 0 → ∀ {V : World} (vA u t : Value), Rows V vA all → Ints V u f → Ints V t g → Calls Tryz.prog 20 #[vA, .int .i64 i, u, t] V fun e w' => e = .returned (.bool q2) ∧ Below V.heap.size V w'
  d0 : (n1 == 0) = false → D = []
  e0 : (n2 == 0) = false → C = []
  f1 : (n1 == 0) = false → q1 = false
  f2 : (n2 == 0) = false → q2 = false
  q1e : n1 = 0 → ((D.length : Int) == 0) = q1
  few : D.length ≤ 64 ∧ C.length ≤ 64
theorem BothC.same1 {a : Nat → Addr} {l all : List (List Int)} {f g : List Int} {i k n1 n2 : Int} {ve1 ve2 : Value} {D C : List Int} {q1 q2 : Bool} (h : BothC a l all f g i k n1 n2 ve1 ve2 D C q1 q2) (u t : Value) (V : World) (hu : Ints V u D) (ht : Ints V t D) :
    Calls Tryz.prog 14 #[u, t] V fun e w' => e = .returned (.bool true) ∧ Below V.heap.size V w' := (same_ints u t D D V hu ht (by have := h.few.1; omega)).mono fun e w' h => by
  obtain ⟨h1, q, rfl⟩ := h
  exact ⟨by rw [h1, decide_eq_true rfl], drew_below _ _⟩
theorem BothC.same2 {a : Nat → Addr} {l all : List (List Int)} {f g : List Int} {i k n1 n2 : Int} {ve1 ve2 : Value} {D C : List Int} {q1 q2 : Bool} (h : BothC a l all f g i k n1 n2 ve1 ve2 D C q1 q2) (u t : Value) (V : World) (hu : Ints V u C) (ht : Ints V t C) :
    Calls Tryz.prog 14 #[u, t] V fun e w' => e = .returned (.bool true) ∧ Below V.heap.size V w' := (same_ints u t C C V hu ht (by have := h.few.2; omega)).mono fun e w' h => by
  obtain ⟨h1, q, rfl⟩ := h
  exact ⟨by rw [h1, decide_eq_true rfl], drew_below _ _⟩
theorem coded_e {a : Nat → Addr} {j : Nat} {n : Int} (hj : j < 8) (hn : n = (j : Int) + 1) (s : Nat → ByteArray) (V : World) (hE : Errs a s V) : Calls Tryz.prog 15 #[.iface 184 (.pointer (some (a j))), .int .i64 n] V fun e w' => e = .returned (.bool true) ∧ Below V.heap.size V w' :=
  (coded_es V hE j hj n).mono fun e w' h => ⟨by rw [h.1, decide_eq_true hn], h.2⟩
theorem coded_n (V : World) : Calls Tryz.prog 15 #[.nilIface, .int .i64 0] V fun e w' => e = .returned (.bool true) ∧ Below V.heap.size V w' :=
  (coded_nil 0 V).mono fun e w' h => ⟨by rw [h.1, decide_eq_true rfl], by rw [h.2]; exact Below.refl _ _⟩

theorem both_err (a : Nat → Addr) {l all : List (List Int)} {f g : List Int} {i k n1 n2 : Int} {j1 j2 : Nat} (h1 : CoBad l [(i, f)] j1) (h2 : CoBad l [(i, f), (k, g)] j2) (e1 : n1 = (j1 : Int) + 1) (e2 : n2 = (j2 : Int) + 1) (hll : l.length ≤ 100000) (hle : ∀ x ∈ l, x.length ≤ 1000) (hfl : f.length ≤ 60) (hgl : g.length ≤ 60) :
    ∃ ve1 ve2 D C q1 q2, BothC a l all f g i k n1 n2 ve1 ve2 D C q1 q2 :=
  ⟨_, _, [], [], false, false, {
    de := fun s v u V hE hT hl hf => (cupDelta_err h1 v u V hE hl hll hle hf hfl).mono fun e w' h => ⟨_, _, h.1, SliceIn.nil _ _, h.2⟩
    cu := fun s v u t V hE hT hl hf hg => (cupCup_err h2 v u t V hE hl hll hle hf hfl hg hgl).mono fun e w' h => ⟨_, _, h.1, SliceIn.nil _ _, h.2⟩
    co := fun s v u V hE hT hl hf => cupCocycle_err h1 v u V hE hl hll hle hf hfl
    sa := fun hik s v u t V hE hT hl hf hg => cupSame_err (by rw [← hik] at h2; exact h2) v u t V hE hl hll hle hf hfl hg hgl
    c1 := coded_e h1.lt e1
    c2 := coded_e h2.lt e2
    ro := fun h => by omega
    rc := fun h => by omega
    rs := fun _ h => by omega
    d0 := fun _ => rfl
    e0 := fun _ => rfl
    f1 := fun _ => rfl
    f2 := fun _ => rfl
    q1e := fun h => by omega
    few := ⟨by simp, by simp⟩ }⟩
theorem ints_len {S : Nat → Prop} {W : World} {v : Value} {x : List Int} (h : IntsIn S W v x) : ∃ b c, v = .slice b x.length c ∧ Ints W (.slice b x.length c) x := by
  have h2 := h.any
  obtain ⟨b, c, rfl, -⟩ := h.open_
  exact ⟨b, c, rfl, h2⟩
theorem both_half (a : Nat → Addr) {l all : List (List Int)} {f g : List Int} {d : Nat} {k n2 : Int} {j2 : Nat} (hg : Good l all) (h60 : all.length ≤ 60) (hd : d < topN all) (hof : OkCo (ofDim all (d : Int)).length f) (h2 : CoBad l [((d : Int), f), (k, g)] j2) (e2 : n2 = (j2 : Int) + 1) (hll : l.length ≤ 100000) (hle : ∀ x ∈ l, x.length ≤ 1000) (hfl : f.length ≤ 60) (hgl : g.length ≤ 60) :
    ∃ ve1 ve2 D C q1 q2, BothC a l all f g (d : Int) k 0 n2 ve1 ve2 D C q1 q2 := by
  have hn : ∀ d', (ofDim all d').length ≤ 60 := fun d' => Nat.le_trans (ofDim_length _ _) h60
  have h7 : topN all ≤ 7 := topN_upto hg.short
  have hsh : ∀ x ∈ all, x.length ≤ 1000 := fun x hx => by have := hg.short x hx; omega
  exact ⟨_, _, bitsI (deltaW all d (maskN f)), [], decide (deltaW all d (maskN f) = 0), false, {
    de := fun s v u V hE hT hl hf => (cupDelta_ok hg h60 hd hof v u V hE hT hl hll hle hf hfl).mono fun e w' h => by
      obtain ⟨x, rfl, hx, hb⟩ := h
      obtain ⟨b, c, rfl, hx2⟩ := ints_len hx
      exact ⟨b, c, rfl, hx2, hb⟩
    cu := fun s v u t V hE hT hl hf hg => (cupCup_err h2 v u t V hE hl hll hle hf hfl hg hgl).mono fun e w' h => ⟨_, _, h.1, SliceIn.nil _ _, h.2⟩
    co := fun s v u V hE hT hl hf => cupCocycle_ok hg h60 hd hof v u V hE hT hl hll hle hf hfl
    sa := fun hik s v u t V hE hT hl hf hg => cupSame_err (by rw [← hik] at h2; exact h2) v u t V hE hl hll hle hf hfl hg hgl
    c1 := fun s V _ => coded_n V
    c2 := coded_e h2.lt e2
    ro := fun _ V vA u hA hf => (deltaOf_ vA u all d (by omega) f V hA h60 hsh hf hfl hof).mono fun e w' h => by
      obtain ⟨x, rfl, hx, hb⟩ := h
      rw [deltaL_eq hof (by have := hn (d : Int); omega) (by have := hn ((d + 1 : Nat) : Int); omega)] at hx
      obtain ⟨b, c, rfl, hx2⟩ := ints_len hx
      exact ⟨b, c, rfl, hx2, hb⟩
    rc := fun h => by omega
    rs := fun _ h => by omega
    d0 := fun h => by simp at h
    e0 := fun _ => rfl
    f1 := fun h => by simp at h
    f2 := fun _ => rfl
    q1e := fun _ => by
      have h := bitsI_len0 (lt64 (deltaW_lt all d (maskN f)) (by have := hn ((d + 1 : Nat) : Int); omega))
      rw [Bool.eq_iff_iff, decide_eq_true_eq, ← h]
      simp
    few := ⟨bitsI_len _, by simp⟩ }⟩
theorem both_full (a : Nat → Addr) {l all : List (List Int)} {f g : List Int} {d d' : Nat} (hg : Good l all) (h60 : all.length ≤ 60) (hd : d < topN all) (hd' : d' < topN all) (hof : OkCo (ofDim all (d : Int)).length f) (hog : OkCo (ofDim all (d' : Int)).length g) (hll : l.length ≤ 100000) (hle : ∀ x ∈ l, x.length ≤ 1000) (hfl : f.length ≤ 60) (hgl : g.length ≤ 60) :
    ∃ ve1 ve2 D C q1 q2, BothC a l all f g (d : Int) (d' : Int) 0 0 ve1 ve2 D C q1 q2 := by
  have hn : ∀ d', (ofDim all d').length ≤ 60 := fun d' => Nat.le_trans (ofDim_length _ _) h60
  have h7 : topN all ≤ 7 := topN_upto hg.short
  have hsh : ∀ x ∈ all, x.length ≤ 1000 := fun x hx => by have := hg.short x hx; omega
  exact ⟨_, _, bitsI (deltaW all d (maskN f)), bitsI (cupW all d d' (maskN f) (maskN g)), decide (deltaW all d (maskN f) = 0), sameR all d (maskN f) (maskN g), {
    de := fun s v u V hE hT hl hf => (cupDelta_ok hg h60 hd hof v u V hE hT hl hll hle hf hfl).mono fun e w' h => by
      obtain ⟨x, rfl, hx, hb⟩ := h
      obtain ⟨b, c, rfl, hx2⟩ := ints_len hx
      exact ⟨b, c, rfl, hx2, hb⟩
    cu := fun s v u t V hE hT hl hf hgi => (cupCup_ok hg h60 hd hd' hof hog v u t V hE hT hl hll hle hf hfl hgi hgl).mono fun e w' h => by
      obtain ⟨x, rfl, hx, hb⟩ := h
      obtain ⟨b, c, rfl, hx2⟩ := ints_len hx
      exact ⟨b, c, rfl, hx2, hb⟩
    co := fun s v u V hE hT hl hf => cupCocycle_ok hg h60 hd hof v u V hE hT hl hll hle hf hfl
    sa := fun hik s v u t V hE hT hl hf hgi => cupSame_ok hg h60 hd hof (by rw [hik]; exact hog) v u t V hE hT hl hll hle hf hfl hgi hgl
    c1 := fun s V _ => coded_n V
    c2 := fun s V _ => coded_n V
    ro := fun _ V vA u hA hf => (deltaOf_ vA u all d (by omega) f V hA h60 hsh hf hfl hof).mono fun e w' h => by
      obtain ⟨x, rfl, hx, hb⟩ := h
      rw [deltaL_eq hof (by have := hn (d : Int); omega) (by have := hn ((d + 1 : Nat) : Int); omega)] at hx
      obtain ⟨b, c, rfl, hx2⟩ := ints_len hx
      exact ⟨b, c, rfl, hx2, hb⟩
    rc := fun _ V vA u t hA hf hgi => (cupOf_ vA u t all hg d d' (by omega) (by omega) f g V hA h60 hsh hf hfl hgi hgl).mono fun e w' h => by
      obtain ⟨x, rfl, hx, hb⟩ := h
      rw [cupL_eq hof hog (by have := hn ((d + d' : Nat) : Int); omega)] at hx
      obtain ⟨b, c, rfl, hx2⟩ := ints_len hx
      exact ⟨b, c, rfl, hx2, hb⟩
    rs := fun hik _ V vA u t hA hf hgi => sameClass_ vA u t all d (by omega) f g V hA h60 hsh hf hfl hof hgi hgl (by rw [hik]; exact hog)
    d0 := fun h => by simp at h
    e0 := fun h => by simp at h
    f1 := fun h => by simp at h
    f2 := fun h => by simp at h
    q1e := fun _ => by
      have h := bitsI_len0 (lt64 (deltaW_lt all d (maskN f)) (by have := hn ((d + 1 : Nat) : Int); omega))
      rw [Bool.eq_iff_iff, decide_eq_true_eq, ← h]
      simp
    few := ⟨bitsI_len _, bitsI_len _⟩ }⟩

variable (a : Nat → Addr) {l all : List (List Int)} {f g : List Int} {i k : Int}
theorem dims_one {T : Nat} : DimsOk T [(i, f)] ↔ 0 ≤ i ∧ i < (T : Int) := by simp [DimsOk]
theorem dims_two {T : Nat} : DimsOk T [(i, f), (k, g)] ↔ (0 ≤ i ∧ i < (T : Int)) ∧ 0 ≤ k ∧ k < (T : Int) := by simp [DimsOk]
theorem lists_one : ListsOk all [(i, f)] ↔ OkCo (ofDim all i).length f := by simp [ListsOk]
theorem lists_two : ListsOk all [(i, f), (k, g)] ↔ OkCo (ofDim all i).length f ∧ OkCo (ofDim all k).length g := by simp [ListsOk]
theorem both_bad {j : Nat} (hb : BadAt l j) (hll : l.length ≤ 100000) (hle : ∀ x ∈ l, x.length ≤ 1000) (hfl : f.length ≤ 60) (hgl : g.length ≤ 60) : ∃ ve1 ve2 D C q1 q2, BothC a l all f g i k ((j : Int) + 1) ((j : Int) + 1) ve1 ve2 D C q1 q2 := both_err a (.inl hb) (.inl hb) rfl rfl hll hle hfl hgl
theorem both_i (hg : Good l all) (h60 : all.length ≤ 60) (hi : ¬ (0 ≤ i ∧ i < (topN all : Int))) (hll : l.length ≤ 100000) (hle : ∀ x ∈ l, x.length ≤ 1000) (hfl : f.length ≤ 60) (hgl : g.length ≤ 60) : ∃ ve1 ve2 D C q1 q2, BothC a l all f g i k 2 2 ve1 ve2 D C q1 q2 :=
  both_err a (.inr ⟨all, hg, h60, .inl ⟨fun h => hi (dims_one.1 h), rfl⟩⟩) (.inr ⟨all, hg, h60, .inl ⟨fun h => hi (dims_two.1 h).1, rfl⟩⟩) rfl rfl hll hle hfl hgl
theorem both_kno (hg : Good l all) (h60 : all.length ≤ 60) (hi : 0 ≤ i ∧ i < (topN all : Int)) (hk : ¬ (0 ≤ k ∧ k < (topN all : Int))) (hof : ¬ OkCo (ofDim all i).length f) (hll : l.length ≤ 100000) (hle : ∀ x ∈ l, x.length ≤ 1000) (hfl : f.length ≤ 60) (hgl : g.length ≤ 60) : ∃ ve1 ve2 D C q1 q2, BothC a l all f g i k 4 2 ve1 ve2 D C q1 q2 :=
  both_err a (.inr ⟨all, hg, h60, .inr ⟨dims_one.2 hi, fun h => hof (lists_one.1 h), rfl⟩⟩) (.inr ⟨all, hg, h60, .inl ⟨fun h => hk (dims_two.1 h).2, rfl⟩⟩) rfl rfl hll hle hfl hgl
theorem both_kok (hg : Good l all) (h60 : all.length ≤ 60) (hi : 0 ≤ i ∧ i < (topN all : Int)) (hk : ¬ (0 ≤ k ∧ k < (topN all : Int))) (hof : OkCo (ofDim all i).length f) (hll : l.length ≤ 100000) (hle : ∀ x ∈ l, x.length ≤ 1000) (hfl : f.length ≤ 60) (hgl : g.length ≤ 60) : ∃ ve1 ve2 D C q1 q2, BothC a l all f g i k 0 2 ve1 ve2 D C q1 q2 := by
  obtain ⟨d, rfl⟩ : ∃ d : Nat, i = (d : Int) := ⟨i.toNat, by omega⟩
  exact both_half a hg h60 (by omega) hof (.inr ⟨all, hg, h60, .inl ⟨fun h => hk (dims_two.1 h).2, rfl⟩⟩) rfl hll hle hfl hgl
theorem both_fno (hg : Good l all) (h60 : all.length ≤ 60) (hi : 0 ≤ i ∧ i < (topN all : Int)) (hk : 0 ≤ k ∧ k < (topN all : Int)) (hof : ¬ OkCo (ofDim all i).length f) (hll : l.length ≤ 100000) (hle : ∀ x ∈ l, x.length ≤ 1000) (hfl : f.length ≤ 60) (hgl : g.length ≤ 60) : ∃ ve1 ve2 D C q1 q2, BothC a l all f g i k 4 4 ve1 ve2 D C q1 q2 :=
  both_err a (.inr ⟨all, hg, h60, .inr ⟨dims_one.2 hi, fun h => hof (lists_one.1 h), rfl⟩⟩) (.inr ⟨all, hg, h60, .inr ⟨dims_two.2 ⟨hi, hk⟩, fun h => hof (lists_two.1 h).1, rfl⟩⟩) rfl rfl hll hle hfl hgl
theorem both_gno (hg : Good l all) (h60 : all.length ≤ 60) (hi : 0 ≤ i ∧ i < (topN all : Int)) (hk : 0 ≤ k ∧ k < (topN all : Int)) (hof : OkCo (ofDim all i).length f) (hog : ¬ OkCo (ofDim all k).length g) (hll : l.length ≤ 100000) (hle : ∀ x ∈ l, x.length ≤ 1000) (hfl : f.length ≤ 60) (hgl : g.length ≤ 60) : ∃ ve1 ve2 D C q1 q2, BothC a l all f g i k 0 4 ve1 ve2 D C q1 q2 := by
  obtain ⟨d, rfl⟩ : ∃ d : Nat, i = (d : Int) := ⟨i.toNat, by omega⟩
  exact both_half a hg h60 (by omega) hof (.inr ⟨all, hg, h60, .inr ⟨dims_two.2 ⟨hi, hk⟩, fun h => hog (lists_two.1 h).2, rfl⟩⟩) rfl hll hle hfl hgl
theorem both_ok (hg : Good l all) (h60 : all.length ≤ 60) (hi : 0 ≤ i ∧ i < (topN all : Int)) (hk : 0 ≤ k ∧ k < (topN all : Int)) (hof : OkCo (ofDim all i).length f) (hog : OkCo (ofDim all k).length g) (hll : l.length ≤ 100000) (hle : ∀ x ∈ l, x.length ≤ 1000) (hfl : f.length ≤ 60) (hgl : g.length ≤ 60) : ∃ ve1 ve2 D C q1 q2, BothC a l all f g i k 0 0 ve1 ve2 D C q1 q2 := by
  obtain ⟨d, rfl⟩ : ∃ d : Nat, i = (d : Int) := ⟨i.toNat, by omega⟩
  obtain ⟨d', rfl⟩ : ∃ d : Nat, k = (d : Int) := ⟨k.toNat, by omega⟩
  exact both_full a hg h60 (by omega) (by omega) hof hog hll hle hfl hgl

end Go.Proofs.YtiblgnkjjbbmaaaGreatDoor
