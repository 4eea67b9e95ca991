/- What climb hands on: all stairs over two faces, each behind the path so far. -/
import Derived.Test.YtkmecdgnoemimaaDoorKeptOwn
import Derived.Deep.RegionLaw
namespace Go.Proofs.YtkmecdgnoemimaaDoor
open Go.RowKit Go.Shelf Go.Sort Go.Maps Go.Deep

attribute [local go_sem] Oper.semAt_some

/-- A pair's byte. -/
def stepB (wide : Nat) (a b : UInt8) : UInt8 := a * UInt8.ofNat wide + b
/-- The texts of all stairs over two faces, in their order. -/
def climbU (wide : Nat) : Nat → List UInt8 → List UInt8 → List (List UInt8)
  | 0, _, _ => []
  | _ + 1, [], _ => []
  | _ + 1, _ :: _, [] => []
  | n + 1, a :: f, b :: g =>
    if f = [] ∧ g = [] then [[stepB wide a b]]
    else ((if f = [] then [] else climbU wide n f (b :: g)) ++ (if g = [] then [] else climbU wide n (a :: f) g)).map (fun t => stepB wide a b :: t)

theorem climbU_one (wide n : Nat) (a b : UInt8) : climbU wide (n + 1) [a] [b] = [[stepB wide a b]] := by simp [climbU]
theorem climbU_high {wide n : Nat} {a b : UInt8} {g : List UInt8} (hg : g ≠ []) : climbU wide (n + 1) [a] (b :: g) = (climbU wide n [a] g).map (fun t => stepB wide a b :: t) := by simp [climbU, hg]
theorem climbU_low {wide n : Nat} {a b : UInt8} {f : List UInt8} (hf : f ≠ []) : climbU wide (n + 1) (a :: f) [b] = (climbU wide n f [b]).map (fun t => stepB wide a b :: t) := by simp [climbU, hf]
theorem climbU_both {wide n : Nat} {a b : UInt8} {f g : List UInt8} (hf : f ≠ []) (hg : g ≠ []) : climbU wide (n + 1) (a :: f) (b :: g) = (climbU wide n f (b :: g) ++ climbU wide n (a :: f) g).map (fun t => stepB wide a b :: t) := by simp [climbU, hf, hg]
theorem path_more (path : List UInt8) (c : UInt8) (L : List (List UInt8)) : (L.map (fun t => c :: t)).map (fun t => path ++ t) = L.map (fun t => (path ++ [c]) ++ t) := by simp [List.map_map, Function.comp_def]

theorem wide_room (k : Nat) : Fence.wide.room k := fun d h => by simp [Fence.wide] at h
theorem yield_any {m m' l : Nat} {P : Program} {args : Array Value} {W : World} {R : Ending → World → Prop} (h : YieldAt Fence.wide m P l args W R) : YieldAt Fence.wide m' P l args W R := by
  obtain ⟨fn, tmps, assign, body, hy, hR⟩ := h
  exact ⟨fn, tmps, assign, body, hy, hR.1, fun c cs _ => hR.2 c cs (wide_room _)⟩

theorem step_append_path {P : Program} {w : World} {ops : Array Oper} {o : Oper} {a : Act} {K : Act → World → Prop} {Q : Exit → Act → World → Prop} {E : Prop} (hgd : o.guard = none) (s x : Operand) (t : TypeId)
    (ho : o.op = .call { callee := .builtin .append, args := #[s, x], argTypes := #[t, t] })
    (base : Nat) (e : TypeId) (i : TypeInfo) (z : Value) (bytes : Nat) (ht : P.underlying t = some (.slice e)) (hi : P.info? e = some i) (hz : i.zero = some z)
    (hsize : i.size = 1) (hby : i.bytes = bytes) (hzs : z.cells.size = 1) (v : Value) (n : Nat) (xs : List Value) (hs : a.eval s = v) (hown : w.ownsRow base e 1 v n xs)
    (ad : Addr) (c : Nat) (u : Value) (hx : a.eval x = .slice (some ad) 1 c) (hu : w.cell? ad = some u) (h1 : u.oneCell' = true) (hb : base ≤ w.heap.size) (hn : n ≤ 1000) (hbs : bytes ≤ 1000)
    (h : ∀ v' w', Stepped base e n xs u w v w' v' → K (a.put o.dst v') w') :
    if Region.wanted o (yielded ops a.tmps) = true then Oper.wp P o a w K Q else E := by
  have hw : Region.wanted o (yielded ops a.tmps) = true := by simp [Region.wanted, hgd]
  rw [if_pos hw]
  obtain ⟨v', w', hr, h2⟩ := append_path (P := P) w base t o.type e i z bytes ht hi hz hsize hby hzs v n xs hown ad c u hu h1 hb hn hbs
  unfold Oper.wp execOp
  simp only [ho, resolve, invoke, builtin, Sem.run_bind, Sem.run_pure, Result.andThen_ok, List.map_toArray, List.map_cons, List.map_nil, hs, hx, hr]
  exact h v' w' h2

theorem str_tail (a : UInt8) (f : List UInt8) : (⟨(a :: f).toArray⟩ : ByteArray).extract 1 (f.length + 1) = ⟨f.toArray⟩ := by
  apply ByteArray.ext
  simp

theorem head_index (a : UInt8) (f : List UInt8) (w : World) : (Instr.index 9 (encStr (a :: f)) (.int .i64 0)).run Tryd.prog w = .ok (.int .u8 (a.toNat : Int)) w := by
  unfold encStr
  rw [run_index_string _ _ _ _ _ Tryd.underlying9, dif_pos ⟨Int.le_refl _, by simp [ByteArray.size]⟩]
  rfl
theorem tail_slice (a : UInt8) (f : List UInt8) (w : World) : (Instr.slice 9 (encStr (a :: f)) (some (.int .i64 1)) none none).run Tryd.prog w = .ok (encStr f) w := by
  unfold encStr
  rw [run_slice_string_from_if _ _ _ _ _ Tryd.underlying9, if_pos ⟨by decide, by simp [ByteArray.size]; omega⟩]
  have := str_tail a f
  congr 2

theorem pair_byte (wide : Nat) (a b : UInt8) : Value.int .u8 (IntKind.u8.wrap (IntKind.u8.wrap ((a.toNat : Int) * IntKind.u8.wrap (wide : Int)) + (b.toNat : Int))) = byteV (stepB wide a b) := by
  unfold byteV stepB
  have hw : ∀ x : Int, IntKind.u8.wrap x = x % 256 := fun x => by simp [IntKind.wrap, IntKind.signed, IntKind.bits]
  rw [UInt8.toNat_add, UInt8.toNat_mul, UInt8.toNat_ofNat', hw, hw, hw]
  congr 1

/-- A byte more on a path. -/
theorem stepped_path {base : Nat} {W : World} {v : Value} {path : List UInt8} {m : Nat} {c : UInt8} {w1 : World} {v1 : Value} (hm : path.length = m) (h : Stepped base 5 m (path.map byteV) (byteV c) W v w1 v1) :
    PathAt base w1 v1 (path ++ [c]) ∧ Below base W w1 ∧ (∀ W', Others v1 w1 W' → PathAt base W' v1 (path ++ [c]) → PathAt base W' v path ∧ Others v W W') := by
  subst hm
  have e : ∀ W', PathAt base W' v1 (path ++ [c]) ↔ W'.ownsRow base 5 1 v1 (path.length + 1) (path.map byteV ++ [byteV c]) := fun W' => by
    unfold PathAt
    rw [List.map_append, List.length_append]; rfl
  exact ⟨(e _).2 h.row, h.below, fun W' k hp => ⟨h.back W' k ((e _).1 hp), h.others W' k⟩⟩

/-- What climb answers. -/
def ClimbSays (base : Nat) (J Jx : List Fc → World → Prop) (pre zs : List Fc) (v : Value) (path : List UInt8) (W : World) (e : Ending) (W' : World) : Prop :=
  (e = .returned (.bool true) ∧ J (pre ++ zs) W' ∧ PathAt base W' v path ∧ Others v W W') ∨ (e = .returned (.bool false) ∧ ∃ q, q <+: zs ∧ Jx (pre ++ q) W')

set_option maxRecDepth 100000 in
set_option maxHeartbeats 4000000 in
theorem climb_in (l n₀ N wide base : Nat) (J Jx : List Fc → World → Prop) (hJ : Heedless base J)
    (hY : ∀ pre x W, J pre W → pre.length < N → YieldAt Fence.wide 8 Tryd.prog l #[encStr x.1] W fun e W' =>
      (e = .returned (.bool true) ∧ J (pre ++ [x]) W' ∧ BelowC n₀ W W') ∨ (e = .returned (.bool false) ∧ Jx (pre ++ [x]) W')) :
    ∀ (k : Nat) (f g path : List UInt8) (v : Value) (pre zs : List Fc) (W : World), f ≠ [] → g ≠ [] → f.length + g.length ≤ k + 1 → path.length + k ≤ 900 → PathAt base W v path → base ≤ W.heap.size → J pre W → pre.length + zs.length ≤ N →
      zs.map Subtype.val = (climbU wide k f g).map (fun t => path ++ t) →
      ∀ n, CallsIn Fence.wide n Tryd.prog 54 #[encStr f, encStr g, .int .i64 wide, v, .func (.yield l) #[] #[]] W (ClimbSays base J Jx pre zs v path W) := by
  intro k
  induction k with
  | zero =>
    intro f g path v pre zs W hf hg hk
    have h1 := List.length_pos_iff.2 hf
    have h2 := List.length_pos_iff.2 hg
    omega
  | succ k ih =>
    intro f g path v pre zs W hf hg hk hpk hP hb h0 hN hz n
    cases f with
    | nil => exact absurd rfl hf
    | cons a f =>
    cases g with
    | nil => exact absurd rfl hg
    | cons b g =>
    have HIH : Hid (∀ (f g path : List UInt8) (v : Value) (pre zs : List Fc) (W : World), f ≠ [] → g ≠ [] → f.length + g.length ≤ k + 1 → path.length + k ≤ 900 → PathAt base W v path → base ≤ W.heap.size → J pre W → pre.length + zs.length ≤ N →
      zs.map Subtype.val = (climbU wide k f g).map (fun t => path ++ t) →
      ∀ n, CallsIn Fence.wide n Tryd.prog 54 #[encStr f, encStr g, .int .i64 wide, v, .func (.yield l) #[] #[]] W (ClimbSays base J Jx pre zs v path W)) := ih
    have HY : Hid (∀ pre x W, J pre W → pre.length < N → YieldAt Fence.wide 8 Tryd.prog l #[encStr x.1] W fun e W' =>
      (e = .returned (.bool true) ∧ J (pre ++ [x]) W' ∧ BelowC n₀ W W') ∨ (e = .returned (.bool false) ∧ Jx (pre ++ [x]) W')) := hY
    have HJ : Hid (Heedless base J) := hJ
    have H0 : Hid (J pre W) := h0
    have HZ : Hid (zs.map Subtype.val = (climbU wide (k + 1) (a :: f) (b :: g)).map (fun t => path ++ t)) := hz
    have hxf := fun w => head_index a f w
    have hxg := fun w => head_index b g w
    have hsf := fun w => tail_slice a f w
    have hsg := fun w => tail_slice b g w
    obtain ⟨sf, hsfe⟩ : ∃ s : ByteArray, encStr (a :: f) = .string s := ⟨_, rfl⟩
    obtain ⟨sg, hsge⟩ : ∃ s : ByteArray, encStr (b :: g) = .string s := ⟨_, rfl⟩
    have hzf : sf.size = f.length + 1 := by unfold encStr at hsfe; cases hsfe; rfl
    have hzg : sg.size = g.length + 1 := by unfold encStr at hsge; cases hsge; rfl
    rw [hsfe] at hxf hsf ⊢
    rw [hsge] at hxg hsg ⊢
    have HF : Hid (encStr (a :: f) = .string sf) := hsfe
    have HG : Hid (encStr (b :: g) = .string sg) := hsge
    obtain ⟨m, hm⟩ : ∃ m, path.length = m := ⟨_, rfl⟩
    have HM : Hid (path.length = m) := hm
    have hown : W.ownsRow base 5 1 v m (path.map byteV) := by rw [← hm]; exact hP
    rw [hm] at hpk
    clear ih hY hJ h0 hz hsfe hsge hm hP hf hg
    obtain ⟨i0, hi, hz0, hz1, hz2⟩ := info_parts Tryd.info5
    refine callsIn_of_wp Tryd.func54 rfl trivial ?_ rfl
    simp only [Tryd.ntmps54, List.size_toArray, List.length_cons, List.length_nil, Nat.reduceAdd, Nat.reduceSub, Array.replicate_succ, Array.replicate_zero, List.push_toArray, List.append_toArray, List.nil_append, List.cons_append]
    refine wpIn_wide.2 ?_
    go_wp2_with fail
    rename_i K0 hK0
    have HK0 : Hid (∀ (a : Act) (w : World), _ → K0 a w) := hK0
    clear hK0
    go_region_law (refine step_append_path (by rfl) (.tmp 11) (.tmp 20) 88 (by rfl) base 5 i0 (.int .u8 0) 1 Tryd.underlying88 hi hz0 hz1 hz2 (by rfl) v m (path.map byteV) (by simp [Act.eval]) (hown.alloc _) ⟨_, 0, none⟩ 1 _ (by simp [Act.eval]) (box_new _ _ _).1 (by rfl) (by simp; omega) (by omega) (by decide) ?_; intro v1 w1 hst; rw [pair_byte] at hst; replace hst := stepped_path HM.out (hst.before ((Below.refl _ W).alloc (Nat.le_refl _) _).drew hb); have HST : Hid (PathAt base w1 v1 (path ++ [stepB wide a b]) ∧ Below base W w1 ∧ (∀ W', Others v1 w1 W' → PathAt base W' v1 (path ++ [stepB wide a b]) → PathAt base W' v path ∧ Others v W W')) := hst; clear hst)
    all_goals refine HK0.out _ _ ((wpIn_wide (n := n)).1 ?_)
    all_goals
      have HJ1 : Hid (J pre w1) := HJ.out _ _ _ H0.out HST.out.2.1
      have hb1 : base ≤ w1.heap.size := Nat.le_trans hb HST.out.2.1.size
      obtain ⟨g1, c1, hv1⟩ := HST.out.1.form (by simp)
      obtain ⟨c, hc⟩ : ∃ c, stepB wide a b = c := ⟨_, rfl⟩
      rw [hc] at HST hv1
      obtain ⟨m1, hm1⟩ : ∃ m1, (path ++ [c]).length = m1 := ⟨_, rfl⟩
      rw [hm1] at hv1
      have HM2 : Hid (m1 = m + 1) := by show m1 = m + 1; rw [← hm1, ← HM.out]; simp
      have HC : Hid (stepB wide a b = c) := hc
      subst hv1
      clear hown hi hz0 hz1 hz2 hxf hxg hc HK0 hm1
      by_cases hf0 : f = []
      · subst hf0
        by_cases hg0 : g = []
        · subst hg0
          have hone : ∃ z : Fc, zs = [z] ∧ z.1 = path ++ [c] := by
            have h1 := HZ.out
            rw [climbU_one, HC.out, List.map_singleton] at h1
            obtain ⟨z, hz1, hz2⟩ := List.map_eq_singleton_iff.1 h1
            exact ⟨z, hz1, hz2⟩
          obtain ⟨z, rfl, hze⟩ := hone
          obtain ⟨g2, c2, hv2, hcv⟩ := HST.out.1.back (by simp)
          rw [← hze] at hcv
          obtain ⟨st, hste⟩ : ∃ s : ByteArray, encStr z.1 = .string s := ⟨_, rfl⟩
          obtain ⟨fn, tmps, assign, body, hy, hR⟩ := yield_any (m' := n - 1) (HY.out pre z w1 HJ1.out (by simp at hN; omega))
          rw [hste] at hcv hy
          clear hv2 hze hste hsf hsg
          gi_wp2
          refine ⟨fun h => by simp [Fence.wide] at h, ?_⟩
          refine hR.mono ?_
          clear hR
          rintro e W2 (⟨rfl, hJ2, hk2⟩ | ⟨rfl, hJx2⟩)
          · have HJ2 : Hid (J (pre ++ [z]) W2) := hJ2
            have HF2 : Hid (PathAt base W2 v path ∧ Others v W W2) := HST.out.2.2 W2 (Others.of_cells hk2) (HST.out.1.cells hk2.2)
            clear hJ2 hk2
            gi_wp2
            go_ret
            exact .inl ⟨rfl, HJ2.out, HF2.out⟩
          · gi_wp2
            go_ret
            exact .inr ⟨rfl, [z], List.prefix_refl _, hJx2⟩
        · have hgl := List.length_pos_iff.2 hg0
          have HZ1 : Hid (zs.map Subtype.val = (climbU wide k [a] g).map (fun t => (path ++ [c]) ++ t)) := by
            have h1 := HZ.out
            rw [climbU_high hg0, HC.out, path_more] at h1
            exact h1
          have hrec := HIH.out [a] g (path ++ [c]) (.slice (some ⟨g1, 0, none⟩) m1 c1) pre zs w1 (by simp) hg0 (by simp at hk ⊢; omega) (by have := HM.out; simp; omega) HST.out.1 hb1 HJ1.out hN HZ1.out (n - 1)
          rw [HF.out] at hrec
          clear hsf
          gi_wp2
          refine ⟨trivial, ?_⟩
          gi_wp2
          refine ⟨trivial, fun h => by simp [Fence.wide] at h, ?_⟩
          refine hrec.mono ?_
          clear hrec
          rintro e W2 (⟨rfl, hJ2, hp2, ho2⟩ | ⟨rfl, q, hq, hx⟩)
          · have HF2 : Hid (J (pre ++ zs) W2 ∧ PathAt base W2 v path ∧ Others v W W2) := ⟨hJ2, HST.out.2.2 W2 ho2 hp2⟩
            clear hJ2 hp2 ho2
            gi_wp2
            go_ret
            exact .inl ⟨rfl, HF2.out⟩
          · gi_wp2
            go_ret
            exact .inr ⟨rfl, q, hq, hx⟩
      · have hfl := List.length_pos_iff.2 hf0
        by_cases hg0 : g = []
        · subst hg0
          have HZ1 : Hid (zs.map Subtype.val = (climbU wide k f [b]).map (fun t => (path ++ [c]) ++ t)) := by
            have h1 := HZ.out
            rw [climbU_low hf0, HC.out, path_more] at h1
            exact h1
          have hrec := HIH.out f [b] (path ++ [c]) (.slice (some ⟨g1, 0, none⟩) m1 c1) pre zs w1 hf0 (by simp) (by simp at hk ⊢; omega) (by have := HM.out; simp; omega) HST.out.1 hb1 HJ1.out hN HZ1.out (n - 1)
          rw [HG.out] at hrec
          clear hsg
          gi_wp2
          refine ⟨trivial, fun h => by simp [Fence.wide] at h, ?_⟩
          refine hrec.mono ?_
          clear hrec
          rintro e W2 (⟨rfl, hJ2, hp2, ho2⟩ | ⟨rfl, q, hq, hx⟩)
          · have HF2 : Hid (J (pre ++ zs) W2 ∧ PathAt base W2 v path ∧ Others v W W2) := ⟨hJ2, HST.out.2.2 W2 ho2 hp2⟩
            clear hJ2 hp2 ho2
            gi_wp2
            refine ⟨trivial, ?_⟩
            gi_wp2
            go_ret
            exact .inl ⟨rfl, HF2.out⟩
          · gi_wp2
            go_ret
            exact .inr ⟨rfl, q, hq, hx⟩
        · have hgl := List.length_pos_iff.2 hg0
          have h1 := HZ.out
          rw [climbU_both hf0 hg0, HC.out, path_more, List.map_append] at h1
          obtain ⟨z1, z2, hze, h11, h12⟩ := List.map_eq_append_iff.1 h1
          subst hze
          have hrec := HIH.out f (b :: g) (path ++ [c]) (.slice (some ⟨g1, 0, none⟩) m1 c1) pre z1 w1 hf0 (by simp) (by simp at hk ⊢; omega) (by have := HM.out; simp; omega) HST.out.1 hb1 HJ1.out (by simp at hN; omega) h11 (n - 1)
          rw [HG.out] at hrec
          have HR2 : Hid (∀ W2, PathAt base W2 (.slice (some ⟨g1, 0, none⟩) m1 c1) (path ++ [c]) → base ≤ W2.heap.size → J (pre ++ z1) W2 →
              CallsIn Fence.wide (n - 1) Tryd.prog 54 #[.string sf, encStr g, .int .i64 wide, .slice (some ⟨g1, 0, none⟩) m1 c1, .func (.yield l) #[] #[]] W2 (ClimbSays base J Jx (pre ++ z1) z2 (.slice (some ⟨g1, 0, none⟩) m1 c1) (path ++ [c]) W2)) := fun W2 p2 b2 j2 => by
            have := HIH.out (a :: f) g (path ++ [c]) (.slice (some ⟨g1, 0, none⟩) m1 c1) (pre ++ z1) z2 W2 (by simp) hg0 (by simp at hk ⊢; omega) (by have := HM.out; simp; omega) p2 b2 j2 (by simp at hN ⊢; omega) h12 (n - 1)
            rw [HF.out] at this
            exact this
          clear h1 h11 h12
          have hgt : ((g.length : Int) + 1 == 1) = false := beq_false_of_ne (by omega)
          gi_wp2
          refine ⟨trivial, fun h => by simp [Fence.wide] at h, ?_⟩
          refine hrec.mono ?_
          clear hrec
          rintro e W2 (⟨rfl, hJ2, hp2, ho2⟩ | ⟨rfl, q, hq, hx⟩)
          · have hrec2 := HR2.out W2 hp2 (Nat.le_trans hb1 ho2.1) hJ2
            have HO2 : Hid (Others (.slice (some ⟨g1, 0, none⟩) m1 c1) w1 W2) := ho2
            clear hJ2 hp2 ho2
            gi_wp2
            refine ⟨trivial, fun h => by simp [Fence.wide] at h, ?_⟩
            refine hrec2.mono ?_
            clear hrec2
            rintro e W3 (⟨rfl, hJ3, hp3, ho3⟩ | ⟨rfl, q, hq, hx⟩)
            · have HF3 : Hid (J (pre ++ (z1 ++ z2)) W3 ∧ PathAt base W3 v path ∧ Others v W W3) := ⟨by rw [← List.append_assoc]; exact hJ3, HST.out.2.2 W3 (HO2.out.trans ho3) hp3⟩
              clear hJ3 hp3 ho3
              gi_wp2
              go_ret
              exact .inl ⟨rfl, HF3.out⟩
            · gi_wp2
              go_ret
              exact .inr ⟨rfl, z1 ++ q, (List.prefix_append_right_inj z1).2 hq, by rw [← List.append_assoc]; exact hx⟩
          · gi_wp2
            go_ret
            exact .inr ⟨rfl, q, hq.trans (List.prefix_append _ _), hx⟩

end Go.Proofs.YtkmecdgnoemimaaDoor
