/- The product of two rows. Cochains as lists and as words, without Go. -/
import Derived.Test.YtldknhganoiajaaGreatDoorCupCup
namespace Go.Proofs.YtldknhganoiajaaGreatDoor
open Go.RowKit Go.Sort Go.Maps Go.Deep

/-- The product of two words. -/
def cupW (all : List (List Int)) (i k f g : Nat) : Nat := maskF (fun x => f.testBit (fstN all i k x) && g.testBit (lstN all i k x)) (ofDim all ((i + k : Nat) : Int)).length

set_option maxRecDepth 100000 in
set_option maxHeartbeats 4000000 in
theorem cup1_ {S S' : Nat → Prop} {l all : List (List Int)} (hg : Good l all) (h60 : all.length ≤ 60) (i k : Nat) (B p0 p1 p2 g1 g2 f g : Nat) (u v : Value) (w : World)
    (hE : EndsAt B (ofDim all ((i + k : Nat) : Int)).length w p0 p1 p2 g1 g2 (fun x => if x < (ofDim all ((i + k : Nat) : Int)).length then fstN all i k x else 0) (fun x => if x < (ofDim all ((i + k : Nat) : Int)).length then lstN all i k x else 0))
    (hu : WordIn S w u (ofDim all (i : Int)).length f) (hv : WordIn S' w v (ofDim all (k : Int)).length g) :
    Calls Tryz.prog 63 #[u, v, .pointer (some ⟨p0, 0, none⟩), .pointer (some ⟨p1, 0, none⟩), .pointer (some ⟨p2, 0, none⟩)] w fun e w' => ∃ r, e = .returned r ∧ WordIn (fun b => w.heap.size ≤ b) w' r (ofDim all ((i + k : Nat) : Int)).length (cupW all i k f g) ∧ Below w.heap.size w w' := by
  have hn6 : (ofDim all ((i + k : Nat) : Int)).length ≤ 60 := Nat.le_trans (ofDim_length _ _) h60
  have HX : Hid (∀ x, x < (ofDim all ((i + k : Nat) : Int)).length → fstN all i k x < (ofDim all (i : Int)).length ∧ lstN all i k x < (ofDim all (k : Int)).length) := fun x hx => by
    obtain ⟨⟨m1, l1⟩, m2, l2⟩ := ends_in hg hx
    exact ⟨(idxF_lt hg m1 l1).1, (idxF_lt hg m2 l2).1⟩
  unfold cupW
  obtain ⟨n, hn⟩ : ∃ n, (ofDim all ((i + k : Nat) : Int)).length = n := ⟨_, rfl⟩
  rw [hn] at hn6 HX hE ⊢
  have HE := Hid.mk' (And.intro hE (And.intro hu hv))
  have e0 := hE.c0
  have hnr := newRow_ n hn6 w
  obtain ⟨au, mu, cu, rfl⟩ := hu.form
  obtain ⟨av, mv, cv, rfl⟩ := hv.form
  clear hE hu hv hn hg
  go_enter Tryz.func63, Tryz.ntmps63
  go_wp2_with fail
  refine hnr.mono ?_
  clear hnr e0
  rintro e V1 ⟨r, rfl, hr, hV1⟩
  have e0 := (HE.out.1.below hV1).c0
  have HR := Hid.mk' (And.intro hr hV1)
  obtain ⟨ar, mr, cr, rfl⟩ := hr.form
  clear hr hV1
  go_wp2_with fail
  go_loopw [13] (fun p W => ∃ (x : Nat), x ≤ n ∧ p = .int .i64 (x : Int) ∧ Hid (WordIn (fun b => w.heap.size ≤ b) W (.slice ar mr cr) n (maskF (fun x => f.testBit (fstN all i k x) && g.testBit (lstN all i k x)) x) ∧ Below w.heap.size w W)) (fun p _ => n - (intOf p).toNat)
  case atStart => exact ⟨0, by omega, rfl, by simpa [maskF] using HR⟩
  case round =>
    obtain ⟨x, hx, rfl, HK⟩ := hrel
    clear HR e0
    by_cases hlt : x < n
    · have hq := HX.out x hlt
      have hEw := HE.out.1.below HK.out.2
      have e1 := hEw.c1
      have e2 := hEw.c2
      have f1 := hEw.r1.cell hlt
      have f2 := hEw.r2.cell hlt
      rw [if_pos hlt] at f1 f2
      have HMF : Hid (maskF (fun x => f.testBit (fstN all i k x) && g.testBit (lstN all i k x)) (x + 1) = maskF (fun x => f.testBit (fstN all i k x) && g.testBit (lstN all i k x)) x ^^^ (if (f.testBit (fstN all i k x) && g.testBit (lstN all i k x)) = true then 2 ^ x else 0)) := rfl
      obtain ⟨q1, hq1⟩ : ∃ q1, fstN all i k x = q1 := ⟨_, rfl⟩
      obtain ⟨q2, hq2⟩ : ∃ q2, lstN all i k x = q2 := ⟨_, rfl⟩
      rw [hq1] at hq f1 HMF
      rw [hq2] at hq f2 HMF
      have hh1 := has_ (.slice au mu cu) _ f q1 wr (HE.out.2.1.below HK.out.2) hq.1
      have hh2 := has_ (.slice av mv cv) _ g q2 wr (HE.out.2.2.below HK.out.2) hq.2
      have hfl := flip_ (.slice ar mr cr) n _ x wr HK.out.1 hlt
      obtain ⟨y, hy⟩ : ∃ y, maskF (fun x => f.testBit (fstN all i k x) && g.testBit (lstN all i k x)) x = y := ⟨_, rfl⟩
      rw [hy] at HMF hfl
      obtain ⟨t1, ht1⟩ : ∃ t1, f.testBit q1 = t1 := ⟨_, rfl⟩
      obtain ⟨t2, ht2⟩ : ∃ t2, g.testBit q2 = t2 := ⟨_, rfl⟩
      rw [ht1] at HMF hh1
      rw [ht2] at HMF hh2
      have HY := Hid.mk' hy
      clear hEw hq1 hq2 ht1 ht2 hq hy
      cases t1 with
      | false =>
        have HN : Hid (WordIn (fun b => w.heap.size ≤ b) wr (.slice ar mr cr) n (maskF (fun x => f.testBit (fstN all i k x) && g.testBit (lstN all i k x)) (x + 1)) ∧ Below w.heap.size w wr) := by
          have h1 := HK.out
          rw [HY.out] at h1
          rw [HMF.out]
          simpa using Hid.mk' h1
        clear HK
        go_wp2_with fail
        refine hh1.mono ?_
        rintro e V2 ⟨rfl, rfl⟩
        clear hh1 hh2 hfl
        go_wp2_with fail
        go_roundw
        case rel => exact ⟨x + 1, by omega, by go_num, HN.out⟩
        case measure => simp [intOf]; omega
      | true =>
        cases t2 with
        | false =>
          have HN : Hid (WordIn (fun b => w.heap.size ≤ b) wr (.slice ar mr cr) n (maskF (fun x => f.testBit (fstN all i k x) && g.testBit (lstN all i k x)) (x + 1)) ∧ Below w.heap.size w wr) := by
            have h1 := HK.out
            rw [HY.out] at h1
            rw [HMF.out]
            simpa using Hid.mk' h1
          clear HK
          go_wp2_with fail
          refine hh1.mono ?_
          rintro e V2 ⟨rfl, rfl⟩
          clear hh1 hfl
          go_wp2_with fail
          refine hh2.mono ?_
          rintro e V3 ⟨rfl, rfl⟩
          clear hh2
          go_wp2_with fail
          go_roundw
          case rel => exact ⟨x + 1, by omega, by go_num, HN.out⟩
          case measure => simp [intOf]; omega
        | true =>
          go_wp2_with fail
          refine hh1.mono ?_
          rintro e V2 ⟨rfl, rfl⟩
          clear hh1
          go_wp2_with fail
          refine hh2.mono ?_
          rintro e V3 ⟨rfl, rfl⟩
          clear hh2
          go_wp2_with fail
          refine hfl.mono ?_
          clear hfl
          rintro e V4 ⟨rfl, hA1, hA2, hA3⟩
          have HN : Hid (WordIn (fun b => w.heap.size ≤ b) V4 (.slice ar mr cr) n (maskF (fun x => f.testBit (fstN all i k x) && g.testBit (lstN all i k x)) (x + 1)) ∧ Below w.heap.size w V4) := by
            refine ⟨by rw [HMF.out]; simpa using hA1, HK.out.2.grown hA2 HK.out.2.size (fun b hb => (own_block_of HK.out.1 hb (by omega)))⟩
          clear hA1 hA2 hA3 HK
          go_wp2_with fail
          go_roundw
          case rel => exact ⟨x + 1, by omega, by go_num, HN.out⟩
          case measure => simp [intOf]; omega
    · have hxe : x = n := by omega
      subst hxe
      go_wp2_with fail
      go_ret
      exact ⟨_, rfl, HK.out.1, HK.out.2⟩

end Go.Proofs.YtldknhganoiajaaGreatDoor

namespace Go.Proofs.YtldknhganoiajaaGreatDoor
open Go.RowKit Go.Sort

theorem mask_from : ∀ (f : List Int) (x0 : Nat), Rising f → (∀ v ∈ f, 0 ≤ v) → ∀ k : Nat, (f.foldl (fun x i => x ^^^ 2 ^ i.toNat) x0).testBit k = (x0.testBit k ^^ f.contains (k : Int))
  | [], x0, _, _, k => by simp
  | a :: f, x0, hr, h0, k => by
    have hr' := List.pairwise_cons.1 hr
    rw [List.foldl_cons, mask_from f _ hr'.2 (fun v hv => h0 v (List.mem_cons_of_mem _ hv)) k, Nat.testBit_xor, Nat.testBit_two_pow, List.contains_cons]
    have ha := h0 a (List.mem_cons_self ..)
    by_cases e : (k : Int) = a
    · have hn : f.contains (k : Int) = false := by
        rw [← Bool.not_eq_true, List.contains_iff_mem]
        intro hm
        have := hr'.1 _ hm
        omega
      have e1 : decide (a.toNat = k) = true := decide_eq_true (by omega)
      have e2 : ((k : Int) == a) = true := by simp [e]
      rw [hn, e1, e2]
      cases x0.testBit k <;> rfl
    · have e1 : decide (a.toNat = k) = false := decide_eq_false (by omega)
      have e2 : ((k : Int) == a) = false := by simp [e]
      rw [e1, e2]
      cases x0.testBit k <;> simp
theorem maskN_bit {n : Nat} {f : List Int} (h : OkCo n f) (k : Nat) : (maskN f).testBit k = f.contains (k : Int) := by
  unfold maskN
  rw [mask_from f 0 h.1 (fun v hv => (h.2 v hv).1) k]
  simp
theorem maskN_lt {n : Nat} {f : List Int} (h : OkCo n f) : maskN f < 2 ^ n := by
  refine Nat.lt_pow_two_of_testBit _ (fun k hk => ?_)
  rw [maskN_bit h, ← Bool.not_eq_true, List.contains_iff_mem]
  intro hm
  have := h.2 _ hm
  omega
theorem lt64 {n x : Nat} (h : x < 2 ^ n) (hn : n ≤ 64) : x < 2 ^ 64 := Nat.lt_of_lt_of_le h (Nat.pow_le_pow_right (by decide) hn)
theorem bitsN_mask {n : Nat} {f : List Int} (h : OkCo n f) (hn : n ≤ 64) : bitsN (maskN f) = f.map Int.toNat := by
  refine nat_told (bitsN_rising _) ?_ (fun k => ?_)
  · rw [List.pairwise_map]
    refine List.Pairwise.imp_of_mem (fun {a b} ha hb hab => ?_) h.1
    have := h.2 a ha; have := h.2 b hb; omega
  · rw [bitsN_mem (lt64 (maskN_lt h) hn), maskN_bit h, List.contains_iff_mem, List.mem_map]
    constructor
    · intro hm; exact ⟨_, hm, by simp⟩
    · rintro ⟨v, hv, rfl⟩
      have := h.2 v hv
      rwa [Int.toNat_of_nonneg this.1]
theorem natsI_toNat : ∀ {f : List Int}, (∀ v ∈ f, 0 ≤ v) → natsI (f.map Int.toNat) = f
  | [], _ => rfl
  | a :: f, h => by
    have ih := natsI_toNat (f := f) (fun v hv => h v (List.mem_cons_of_mem _ hv))
    unfold natsI at ih ⊢
    rw [List.map_cons, List.map_cons, ih, Int.toNat_of_nonneg (h a (List.mem_cons_self ..))]
theorem bitsI_mask {n : Nat} {f : List Int} (h : OkCo n f) (hn : n ≤ 64) : bitsI (maskN f) = f := by
  unfold bitsI
  rw [bitsN_mask h hn]
  exact natsI_toNat (fun v hv => (h.2 v hv).1)
theorem natsI_mem {l : List Nat} {k : Nat} : (k : Int) ∈ natsI l ↔ k ∈ l := by
  unfold natsI
  rw [List.mem_map]
  constructor
  · rintro ⟨j, hj, e⟩
    have : j = k := by omega
    rw [← this]; exact hj
  · intro h; exact ⟨k, h, rfl⟩
theorem natsI_rising {l : List Nat} (h : l.Pairwise (· < ·)) : Rising (natsI l) := by
  unfold natsI Rising
  rw [List.pairwise_map]
  exact h.imp (fun hab => by omega)
theorem natsI_nonneg {l : List Nat} : ∀ v ∈ natsI l, 0 ≤ v := fun v hv => by
  unfold natsI at hv
  obtain ⟨k, -, rfl⟩ := List.mem_map.1 hv
  omega
theorem bitsI_ok {n x : Nat} (h : x < 2 ^ n) (hn : n ≤ 64) : OkCo n (bitsI x) := by
  refine ⟨natsI_rising (bitsN_rising x), fun v hv => ?_⟩
  have h0 := natsI_nonneg v hv
  obtain ⟨k, rfl⟩ : ∃ k : Nat, v = (k : Int) := ⟨v.toNat, by omega⟩
  refine ⟨h0, ?_⟩
  have hb := (bitsN_mem (lt64 h hn)).1 (natsI_mem.1 hv)
  rcases Nat.lt_or_ge k n with h1 | h1
  · omega
  · rw [Nat.testBit_lt_two_pow (Nat.lt_of_lt_of_le h (Nat.pow_le_pow_right (by decide) h1))] at hb; cases hb
theorem mask_bitsI {n x : Nat} (h : x < 2 ^ n) (hn : n ≤ 64) : maskN (bitsI x) = x := by
  refine Nat.eq_of_testBit_eq (fun k => ?_)
  rw [maskN_bit (bitsI_ok h hn), Bool.eq_iff_iff, List.contains_iff_mem]
  unfold bitsI
  rw [natsI_mem, bitsN_mem (lt64 h hn)]
theorem bitsI_has {x : Nat} (h : x < 2 ^ 64) (k : Nat) : (bitsI x).contains (k : Int) = x.testBit k := by
  rw [Bool.eq_iff_iff, List.contains_iff_mem]
  unfold bitsI
  rw [natsI_mem, bitsN_mem h]
theorem bitsI_nil {x : Nat} (h : x < 2 ^ 64) : bitsI x = [] ↔ x = 0 := by
  unfold bitsI natsI
  rw [List.map_eq_nil_iff, bitsN_nil h]
theorem bitsI_len0 {x : Nat} (h : x < 2 ^ 64) : (bitsI x).length = 0 ↔ x = 0 := by rw [List.length_eq_zero_iff, bitsI_nil h]
theorem bitsI_len (x : Nat) : (bitsI x).length ≤ 64 := by
  unfold bitsI
  rw [natsI_len]
  exact bitsN_len x
theorem bitsI_head {x : Nat} (h : x < 2 ^ 64) (h0 : x ≠ 0) : (bitsI x)[0]?.getD 0 = (low x : Int) := by
  unfold bitsI
  rw [bitsN_low h0 h]
  rfl
/-- Lists that rise and hold the same are the same. -/
theorem ints_told {l m : List Int} (hl : Rising l) (hm : Rising m) (h0 : ∀ v ∈ l, 0 ≤ v) (h0' : ∀ v ∈ m, 0 ≤ v) (h : ∀ k : Nat, (k : Int) ∈ l ↔ (k : Int) ∈ m) : l = m := by
  have key : ∀ {f : List Int}, Rising f → (∀ v ∈ f, 0 ≤ v) → (f.map Int.toNat).Pairwise (· < ·) := fun {f} hr h0 => by
    rw [List.pairwise_map]
    refine List.Pairwise.imp_of_mem (fun {a b} ha hb hab => ?_) hr
    have := h0 a ha; have := h0 b hb; omega
  have hmem : ∀ {f : List Int}, (∀ v ∈ f, 0 ≤ v) → ∀ k, k ∈ f.map Int.toNat ↔ (k : Int) ∈ f := fun {f} h0 k => by
    rw [List.mem_map]
    constructor
    · rintro ⟨v, hv, rfl⟩; rwa [Int.toNat_of_nonneg (h0 v hv)]
    · intro hm; exact ⟨_, hm, by simp⟩
  have e := nat_told (key hl h0) (key hm h0') (fun k => by rw [hmem h0, hmem h0', h k])
  rw [← natsI_toNat h0, ← natsI_toNat h0', e]
/-- A word by what is told of each number. -/
theorem filter_bits {x n : Nat} {p : Nat → Bool} (_hn : n ≤ 64) (h : x < 2 ^ 64) (hb : ∀ k, x.testBit k = (decide (k < n) && p k)) : natsI ((List.range n).filter p) = bitsI x := by
  unfold bitsI
  rw [nat_told ((range_rising n).filter p) (bitsN_rising x) (fun k => ?_)]
  rw [bitsN_mem h, hb k, List.mem_filter, List.mem_range]
  simp

/-- Has a face an odd number of parts among these? -/
def oddL (all : List (List Int)) (d : Nat) (f : List Int) (k : Nat) : Bool := f.foldl (fun b i => b ^^ partB (faceD all d i.toNat) (faceD all (d + 1) k)) false
def deltaL (all : List (List Int)) (d : Nat) (f : List Int) : List Nat := (List.range (ofDim all ((d + 1 : Nat) : Int)).length).filter (oddL all d f)
theorem oddL_take (all : List (List Int)) (d : Nat) {f : List Int} {j : Nat} (hj : j < f.length) (k : Nat) : oddL all d (f.take (j + 1)) k = (oddL all d (f.take j) k ^^ partB (faceD all d (f[j]?.getD 0).toNat) (faceD all (d + 1) k)) := by
  unfold oddL
  rw [take_co hj, List.foldl_append]; rfl
theorem dSum_bit (all : List (List Int)) (d : Nat) : ∀ (f : List Int) (x0 : Nat) (b0 : Bool) (k : Nat), x0.testBit k = (decide (k < (ofDim all ((d + 1 : Nat) : Int)).length) && b0) →
    ((f.map Int.toNat).foldl (fun x i => x ^^^ dM all d i) x0).testBit k = (decide (k < (ofDim all ((d + 1 : Nat) : Int)).length) && f.foldl (fun b i => b ^^ partB (faceD all d i.toNat) (faceD all (d + 1) k)) b0)
  | [], x0, b0, k, h => h
  | a :: f, x0, b0, k, h => by
    rw [List.map_cons, List.foldl_cons, List.foldl_cons]
    refine dSum_bit all d f _ _ k ?_
    rw [Nat.testBit_xor, h]
    unfold dM
    rw [maskF_bit]
    cases decide (k < (ofDim all ((d + 1 : Nat) : Int)).length) <;> simp
theorem deltaL_eq {all : List (List Int)} {d n : Nat} {f : List Int} (h : OkCo n f) (hn : n ≤ 64) (hm : (ofDim all ((d + 1 : Nat) : Int)).length ≤ 64) : natsI (deltaL all d f) = bitsI (deltaW all d (maskN f)) := by
  have hb : ∀ k, (deltaW all d (maskN f)).testBit k = (decide (k < (ofDim all ((d + 1 : Nat) : Int)).length) && oddL all d f k) := fun k => by
    unfold deltaW
    rw [bitsN_mask h hn]
    exact dSum_bit all d f 0 false k (by simp)
  refine filter_bits hm ?_ hb
  refine Nat.lt_pow_two_of_testBit _ (fun k hk => ?_)
  rw [hb k]
  have : decide (k < (ofDim all ((d + 1 : Nat) : Int)).length) = false := decide_eq_false (by omega)
  rw [this]; rfl
theorem dSum_lt (all : List (List Int)) (d : Nat) : ∀ (is : List Nat) (x0 : Nat), x0 < 2 ^ (ofDim all ((d + 1 : Nat) : Int)).length → is.foldl (fun x i => x ^^^ dM all d i) x0 < 2 ^ (ofDim all ((d + 1 : Nat) : Int)).length
  | [], x0, h => h
  | a :: is, x0, h => by
    rw [List.foldl_cons]
    exact dSum_lt all d is _ (xor_lt h (dM_lt all d a))
theorem deltaW_lt (all : List (List Int)) (d x : Nat) : deltaW all d x < 2 ^ (ofDim all ((d + 1 : Nat) : Int)).length := dSum_lt all d _ 0 (Nat.pow_pos (by decide))
theorem cupW_lt (all : List (List Int)) (i k f g : Nat) : cupW all i k f g < 2 ^ (ofDim all ((i + k : Nat) : Int)).length := maskF_lt _ _

/-- The product of two cochains as lists. -/
def cupB (all : List (List Int)) (i k : Nat) (f g : List Int) (x : Nat) : Bool := f.contains (fstN all i k x : Int) && g.contains (lstN all i k x : Int)
def cupL (all : List (List Int)) (i k : Nat) (f g : List Int) : List Nat := (List.range (ofDim all ((i + k : Nat) : Int)).length).filter (cupB all i k f g)
theorem cupL_eq {all : List (List Int)} {i k n m : Nat} {f g : List Int} (hf : OkCo n f) (hg : OkCo m g) (hm : (ofDim all ((i + k : Nat) : Int)).length ≤ 64) : natsI (cupL all i k f g) = bitsI (cupW all i k (maskN f) (maskN g)) := by
  refine filter_bits hm (lt64 (cupW_lt ..) hm) (fun x => ?_)
  unfold cupW cupB
  rw [maskF_bit, maskN_bit hf, maskN_bit hg]

/-- Of one face alone. -/
theorem one_face {all : List (List Int)} {d i : Nat} (hi : i < 64) : deltaW all d (maskN [(i : Int)]) = dM all d i := by
  have h : OkCo (i + 1) [(i : Int)] := ⟨by simp [Rising], by simp; omega⟩
  unfold deltaW
  rw [bitsN_mask h (by omega)]
  simp [dSum]

end Go.Proofs.YtldknhganoiajaaGreatDoor
