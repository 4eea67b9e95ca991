/- Values in a block of their own. Small numbers are not wrapped. What sorted and hasTwoAlike answer. -/
import Derived.Test.YtmndhclmhjmbpaaGreatDoorHeap
import Derived.Test.YtmndhclmhjmbpaaGreatDoorBase
import Derived.Test.YtmndhclmhjmbpaaGreatDoorIdxSort
namespace Go.Proofs.YtmndhclmhjmbpaaGreatDoor
open Go.RowKit Go.Sort

/-- Values in a block of their own. -/
def VecAt (t : TypeId) (n : Nat) (b : Nat) (W : World) (g : Nat → Value) : Prop := W.heap[b]? = some (.cells ((List.range n).map g).toArray t (0, 0))
section
variable {t : TypeId} {n b : Nat} {W W' : World} {g : Nat → Value}
theorem VecAt.cell (h : VecAt t n b W g) {k : Nat} (hk : k < n) : W.cell? ⟨b, k, none⟩ = some (g k) ∧ W.frozen? ⟨b, k, none⟩ = false := by
  have h' : W.heap[b]? = some (.cells ((List.range n).map g).toArray t (0, 0)) := h
  constructor
  · simp [World.cell?, h', hk]
  · simp [World.frozen?, h']
theorem VecAt.lt (h : VecAt t n b W g) : b < W.heap.size := (Array.getElem?_eq_some_iff.1 h).1
theorem VecAt.below (h : VecAt t n b W g) (hB : Below W.heap.size W W') : VecAt t n b W' g := (hB.block b h.lt).trans h
theorem VecAt.keep (h : VecAt t n b W g) (hk : W'.heap[b]? = W.heap[b]?) : VecAt t n b W' g := hk.trans h
theorem VecAt.put (h : VecAt t n b W g) (k : Nat) (x : Value) : VecAt t n b (W.setCell ⟨b, k, none⟩ x) (fun i => if i = k then x else g i) := by
  have h1 := heap_setCell_same W b k _ t x h
  unfold VecAt
  rw [h1]
  congr 2
  refine Array.ext_getElem? fun i => ?_
  by_cases hi : i < n
  · by_cases e : k = i
    · subst e; simp [hi, Array.setIfInBounds]
    · have e2 : ¬ i = k := fun h => e h.symm
      simp [hi, e, e2]
  · simp [hi]
theorem VecAt.conv (h : VecAt t n b W g) {g' : Nat → Value} (hg : ∀ k, k < n → g k = g' k) : VecAt t n b W g' := by
  unfold VecAt at h ⊢
  rw [h]
  congr 3
  exact List.map_congr_left fun k hk => hg k (List.mem_range.1 hk)
end

/-- A made slice of elements of two cells. -/
theorem made_two (w : World) (z : Value) (n : Nat) (t : TypeId) : VecAt t (n * 2) w.heap.size (w.alloc (.cells (madeCells #[z, z] (n * 2)) t)) (fun _ => z) := by
  unfold VecAt
  rw [(Go.MapKept.heap_alloc w _).1]
  congr 2
  refine Array.ext (by simp [madeCells]) fun i h1 h2 => ?_
  have h3 : i < n * 2 := by simpa [madeCells] using h1
  simp only [madeCells, Array.getElem_map, Array.getElem_range, List.getElem_toArray, List.getElem_map]
  rcases (show i % 2 = 0 ∨ i % 2 = 1 by omega) with h | h <;> simp [h]

end Go.Proofs.YtmndhclmhjmbpaaGreatDoor

namespace Go.Proofs.YtmndhclmhjmbpaaGreatDoor
open Go.RowKit

theorem wrapI {x : Int} (h0 : -10000000 ≤ x) (h1 : x ≤ 10000000) : IntKind.i64.wrap x = x := by rw [IntKind.wrap_i64]; omega
theorem Hid.mk' {p : Prop} (h : p) : Hid p := h

end Go.Proofs.YtmndhclmhjmbpaaGreatDoor

namespace Go.Proofs.YtmndhclmhjmbpaaGreatDoor
open Go.RowKit Go.Sort

/-- A spot's cells, where its place is below k. -/
def spotC (Z : List Duo) (k j : Nat) : Value := if j / 2 < k then (if j % 2 = 0 then .int .i64 (Z[j / 2]?.getD (0, 0)).1 else .int .i64 (Z[j / 2]?.getD (0, 0)).2) else .int .i64 0
theorem spot_row {W : World} {b base : Nat} {Z : List Duo} (h : VecAt 160 (Z.length * 2) b W (spotC Z Z.length)) (hb : base ≤ b) (hl : Z.length ≤ 100000) : DuoRow base 160 W (.slice (some ⟨b, 0, none⟩) Z.length Z.length) Z := by
  refine ⟨by rw [duoCells_len], .inr ⟨b, Z.length, _, rfl, hb, h, Nat.le_refl _, by unfold maxLen; omega, by simp, ?_⟩⟩
  have e : ((List.range (Z.length * 2)).map (spotC Z Z.length)).toArray.toList = duoCells Z := by
    refine List.ext_getElem? fun j => ?_
    by_cases hj : j < Z.length * 2
    · have hk : j / 2 < Z.length := by omega
      have h1 := duoCells_at hk
      have h2 : (((List.range (Z.length * 2)).map (spotC Z Z.length)).toArray.toList)[j]? = some (spotC Z Z.length j) := by simp [hj]
      rw [h2]
      unfold spotC
      rw [if_pos hk, List.getElem?_eq_getElem hk, Option.getD_some]
      rcases (show j % 2 = 0 ∨ j % 2 = 1 by omega) with h3 | h3
      · have h4 := h1.1
        rw [show j / 2 * 2 = j by omega] at h4
        rw [if_pos h3, h4]
      · have h4 := h1.2
        rw [show j / 2 * 2 + 1 = j by omega] at h4
        rw [if_neg (by omega), h4]
    · rw [List.getElem?_eq_none (by simp; omega), List.getElem?_eq_none (by rw [duoCells_len]; omega)]
  rw [e, List.take_of_length_le (by rw [duoCells_len]; exact Nat.le_refl _)]

theorem spotC_step (Z : List Duo) (k : Nat) (x y : Int) (hz : Z[k]?.getD (0, 0) = (x, y)) (j : Nat) : (if j = k * 2 + 1 then (.int .i64 y : Value) else if j = k * 2 then .int .i64 x else spotC Z k j) = spotC Z (k + 1) j := by
  unfold spotC
  by_cases h1 : j = k * 2 + 1
  · rw [if_pos h1, if_pos (show j / 2 < k + 1 by omega), if_neg (show ¬ j % 2 = 0 by omega), show j / 2 = k by omega, hz]
  · rw [if_neg h1]
    by_cases h2 : j = k * 2
    · rw [if_pos h2, if_pos (show j / 2 < k + 1 by omega), if_pos (show j % 2 = 0 by omega), show j / 2 = k by omega, hz]
    · rw [if_neg h2]
      by_cases h3 : j / 2 < k
      · rw [if_pos h3, if_pos (show j / 2 < k + 1 by omega)]
      · rw [if_neg h3, if_neg (show ¬ j / 2 < k + 1 by omega)]

theorem make_two (t e : TypeId) (n : Nat) (hu : Tryz.prog.underlying t = some (.slice e)) (hinfo : (Tryz.prog.info? e).map (fun i => (i.zero, i.size, i.bytes)) = some (some (.agg #[.int .i64 0, .int .i64 0]), 2, 16)) (hn : n ≤ 1000) (w : World) :
    (Instr.makeSlice t (.int .i64 (n : Int)) (.int .i64 (n : Int))).run Tryz.prog w = .ok (.slice (some ⟨w.heap.size, 0, none⟩) n n) (w.alloc (.cells (madeCells #[.int .i64 0, .int .i64 0] (n * 2)) e)) := by
  obtain ⟨i, hi, hzz⟩ := Option.map_eq_some_iff.1 hinfo
  simp only [Prod.mk.injEq] at hzz
  obtain ⟨hz, hs, hb⟩ := hzz
  have := run_make (P := Tryz.prog) w t e i _ hu hi hz .i64 .i64 (n : Int) (n : Int) (by omega) (Int.le_refl _) (by rw [hb]; omega) (by omega)
  have e : (Value.agg #[.int .i64 0, .int .i64 0]).cells = #[.int .i64 0, .int .i64 0] := rfl
  rw [hs, e] at this
  simpa using this

set_option maxRecDepth 100000 in
set_option maxHeartbeats 2000000 in
theorem spots_sorted (a0 ah : Option Addr) (c0 ch : Nat) (V h : List Int) (w : World) (hr : Rows w (.slice a0 V.length c0) (V.map fun v => [v])) (hh : Ints w (.slice ah h.length ch) h) (hl : h.length = V.length) (hV1 : V.length ≤ 100) :
    Calls Tryz.prog 82 #[.slice a0 V.length c0, .slice ah h.length ch] w fun e w' => ∃ v l, e = .returned v ∧ DuoRow w.heap.size 160 w' v l ∧ l.Perm (V.zip h) ∧ l.Pairwise (fun a b => a.2 ≤ b.2) ∧ Below w.heap.size w w' := by
  obtain ⟨Z, hZ⟩ : ∃ Z : List Duo, V.zip h = Z := ⟨_, rfl⟩
  have hZl : Z.length = V.length := by rw [← hZ, List.length_zip]; omega
  have hZk : ∀ k, k < V.length → Z[k]?.getD (0, 0) = (V[k]?.getD 0, h[k]?.getD 0) := fun k hk => by
    rw [← hZ, List.getElem?_eq_getElem (by rw [List.length_zip]; omega), List.getElem?_eq_getElem hk, List.getElem?_eq_getElem (by omega), Option.getD_some, List.getElem_zip]
    rfl
  have hmk := fun W => make_two 97 160 V.length Tryz.underlying97 (by kernel_rfl) (by omega) W
  have hB0 : Below w.heap.size w (w.alloc (.cells (madeCells #[.int .i64 0, .int .i64 0] (V.length * 2)) 160)) := (Below.refl _ w).alloc (Nat.le_refl _) _
  have hv0 := made_two w (.int .i64 0) V.length 160
  obtain ⟨ar, cr, e1, -, hc⟩ := hr.open_
  obtain ⟨rfl, -, rfl⟩ : a0 = ar ∧ V.length = (V.map fun v => [v]).length ∧ c0 = cr := by simpa using e1
  obtain ⟨ai, ci, e2, -, hci⟩ := hh.open_
  obtain ⟨rfl, rfl⟩ : ah = ai ∧ ch = ci := by simpa using e2
  have HC : Hid (∀ k, k < V.length → ∃ b o b1 o1 p1 bh oh, a0 = some ⟨b, o, none⟩ ∧ b < w.heap.size ∧ w.cell? ⟨b, o + k, none⟩ = some (.slice (some ⟨b1, o1, none⟩) 1 p1) ∧ b1 < w.heap.size ∧ w.cell? ⟨b1, o1, none⟩ = some (.int .i64 (V[k]?.getD 0)) ∧ ah = some ⟨bh, oh, none⟩ ∧ bh < w.heap.size ∧ w.cell? ⟨bh, oh + k, none⟩ = some (.int .i64 (h[k]?.getD 0))) := fun k hk => by
    obtain ⟨b, o, rfl, -, hb, c⟩ := hc (by rw [List.length_map]; omega)
    obtain ⟨a1, p1, g1, i1⟩ := c k (by rw [List.length_map]; omega)
    have hrow : (V.map fun v => [v])[k]?.getD [] = [V[k]?.getD 0] := by simp [hk]
    rw [hrow] at g1 i1
    obtain ⟨b2, o2, rfl, -, hb2, c2⟩ := hci (by omega)
    obtain ⟨a1', p1', e1, -, hx1⟩ := i1.open_
    obtain ⟨rfl, rfl⟩ : a1 = a1' ∧ p1 = p1' := by simpa using e1
    obtain ⟨b1, o1, rfl, -, hb1, hc1⟩ := hx1 (by simp)
    have g3 := hc1 0 (by simp)
    simp only [Nat.add_zero, List.getElem?_cons_zero, Option.getD_some] at g3
    exact ⟨b, o, b1, o1, p1, b2, o2, rfl, hb, g1, hb1, g3, rfl, hb2, c2 k (by omega)⟩
  have HZ : Hid (Z.length = V.length ∧ ∀ k, k < V.length → Z[k]?.getD (0, 0) = (V[k]?.getD 0, h[k]?.getD 0)) := ⟨hZl, hZk⟩
  rw [hZ]
  obtain ⟨n, hn⟩ : ∃ n, V.length = n := ⟨_, rfl⟩
  rw [hl]
  rw [hn] at HC HZ hmk hB0 hv0 hV1 ⊢
  have HB0 : Hid (Below w.heap.size w (w.alloc (.cells (madeCells #[.int .i64 0, .int .i64 0] (n * 2)) 160))) := hB0
  have HV0 : Hid (VecAt 160 (n * 2) w.heap.size (w.alloc (.cells (madeCells #[.int .i64 0, .int .i64 0] (n * 2)) 160)) (fun _ => .int .i64 0)) := hv0
  clear hZ hZl hZk hr hh hc hci e1 e2 hl hn hB0 hv0
  go_enter Tryz.func82, Tryz.ntmps82
  go_wp2_with fail
  go_loopw [13] (fun p W => ∃ k : Nat, k ≤ n ∧ p = .int .i64 k ∧ VecAt 160 (n * 2) w.heap.size W (spotC Z k) ∧ Below w.heap.size w W) (fun p _ => n - (intOf p).toNat)
  case atStart => exact ⟨0, by omega, rfl, HV0.out.conv (fun j _ => by unfold spotC; rw [if_neg (by omega)]), HB0.out⟩
  case round =>
    obtain ⟨k, hk, rfl, hv, hB⟩ := hrel
    have HV : Hid (VecAt 160 (n * 2) w.heap.size wr (spotC Z k)) := hv
    have HB : Hid (Below w.heap.size w wr) := hB
    clear hv hB
    by_cases hlt : k < n
    · obtain ⟨b, o, b1, o1, p1, bh, oh, rfl, hb, g1, hb1, g3, rfl, hbh, g4⟩ := HC.out k hlt
      have g1' := (HB.out.cell (p := ⟨b, o + k, none⟩) hb).trans g1
      have g3' := (HB.out.cell (p := ⟨b1, o1, none⟩) hb1).trans g3
      have g4' := (HB.out.cell (p := ⟨bh, oh + k, none⟩) hbh).trans g4
      have hz := HZ.out.2 k hlt
      obtain ⟨x, hx⟩ : ∃ x, V[k]?.getD 0 = x := ⟨_, rfl⟩
      obtain ⟨y, hy⟩ : ∃ y, h[k]?.getD 0 = y := ⟨_, rfl⟩
      rw [hx] at g3' hz
      rw [hy] at g4' hz
      have HZK : Hid (Z[k]?.getD (0, 0) = (x, y)) := hz
      obtain ⟨f1, f2⟩ := HV.out.cell (k := k * 2) (by omega)
      obtain ⟨f3, f4⟩ := HV.out.cell (k := k * 2 + 1) (by omega)
      clear g1 g3 g4 hz hx hy HC
      go_wp2_with fail
      go_region
      go_wp2_with fail
      go_roundw
      case rel => exact ⟨k + 1, by omega, by go_num, ((HV.out.put (k * 2) (.int .i64 x)).put (k * 2 + 1) (.int .i64 y)).conv (fun j _ => spotC_step Z k x y HZK.out j), ((HB.out.setCell (Nat.le_refl _) _).setCell (Nat.le_refl _) _).drew⟩
      case measure => simp [intOf]; omega
    · obtain rfl : k = n := by omega
      by_cases h0 : k = 0
      · subst h0
        have hn0 := Tryz.slices_SortFunc_none (α := Duo) (some ⟨w.heap.size, 0, none⟩) 0 (.func (.func 109) #[] #[]) wr
        have HZ0 : Hid (Z = []) := List.eq_nil_of_length_eq_zero HZ.out.1
        have hrow : DuoRow w.heap.size 160 wr (.slice (some ⟨w.heap.size, 0, none⟩) 0 0) [] := by
          have := spot_row (W := wr) (b := w.heap.size) (base := w.heap.size) (Z := Z) (by rw [HZ.out.1]; exact HV.out) (Nat.le_refl _) (by rw [HZ.out.1]; omega)
          rw [HZ0.out] at this
          exact this
        have HRW : Hid (DuoRow w.heap.size 160 wr (.slice (some ⟨w.heap.size, 0, none⟩) 0 0) []) := hrow
        clear HC HV hrow
        go_wp2_with fail
        refine hn0.mono ?_
        clear hn0
        rintro e V1 ⟨rfl, rfl⟩
        go_wp2_with fail
        go_ret
        exact ⟨_, [], rfl, HRW.out, by rw [HZ0.out], List.Pairwise.nil, HB.out⟩
      · have hrow : DuoRow w.heap.size 160 wr (.slice (some ⟨w.heap.size, 0, none⟩) k k) Z := by
          have := spot_row (W := wr) (b := w.heap.size) (base := w.heap.size) (Z := Z) (by rw [HZ.out.1]; exact HV.out) (Nat.le_refl _) (by rw [HZ.out.1]; omega)
          rw [HZ.out.1] at this
          exact this
        have hs := sort_spots wr hrow (by rw [HZ.out.1]; omega) (by rw [HZ.out.1]; omega)
        have HS : Hid (w.heap.size < wr.heap.size) := by
          have h1 := HV.out.lt
          exact h1
        clear HC HV hrow
        go_wp2_with fail
        refine hs.mono ?_
        clear hs
        rintro e V1 ⟨rfl, l', hp, hw, hd, hgr⟩
        have HL : Hid (DuoRow w.heap.size 160 V1 (.slice (some ⟨w.heap.size, 0, none⟩) k k) l' ∧ l'.Perm Z ∧ l'.Pairwise (fun a b => a.2 ≤ b.2) ∧ Below w.heap.size w V1) := ⟨hd, hp, hw, HB.out.grown hgr HB.out.size (fun j hj => by cases hj; exact Nat.le_refl _)⟩
        clear hp hw hd hgr
        go_wp2_with fail
        go_ret
        exact ⟨_, l', rfl, HL.out⟩

/-- Two heights, one behind the other, are alike. -/
def Alike (l : List Duo) : Prop := ∃ k, ∃ hk : k + 1 < l.length, l[k].2 = l[k + 1].2
/-- Are two heights alike? -/
theorem alike_iff {V h : List Int} {l : List Duo} (hl : h.length = V.length) (hp : l.Perm (V.zip h)) (hs : l.Pairwise (fun a b => a.2 ≤ b.2)) : Alike l ↔ ¬ h.Nodup := by
  have h1 : (l.map Prod.snd).Perm h := by
    have := hp.map Prod.snd
    rwa [List.map_snd_zip (by omega)] at this
  rw [← h1.nodup_iff]
  have h2 : (l.map Prod.snd).Nodup ↔ l.Pairwise (fun a b => a.2 ≠ b.2) := List.pairwise_map
  rw [h2]
  constructor
  · rintro ⟨k, hk, e⟩ hn
    exact (List.pairwise_iff_getElem.1 hn) k (k + 1) (by omega) hk (by omega) e
  · intro hn
    refine Classical.byContradiction fun hc => hn ?_
    have hlt : ∀ k, (hk : k + 1 < l.length) → l[k].2 < l[k + 1].2 := fun k hk => by
      have h3 := (List.pairwise_iff_getElem.1 hs) k (k + 1) (by omega) hk (by omega)
      rcases Int.lt_or_eq_of_le h3 with h4 | h4
      · exact h4
      · exact absurd ⟨k, hk, h4⟩ hc
    rw [List.pairwise_iff_getElem]
    intro i j hi hj hij
    have : ∀ d, (hd : i + 1 + d < l.length) → l[i].2 < l[i + 1 + d].2 := by
      intro d
      induction d with
      | zero => intro hd; exact hlt i hd
      | succ d ih => intro hd; exact Int.lt_trans (ih (by omega)) (hlt (i + 1 + d) hd)
    have h5 := this (j - (i + 1)) (by omega)
    have h6 : i + 1 + (j - (i + 1)) = j := by omega
    simp only [h6] at h5
    exact Int.ne_of_lt h5

set_option maxRecDepth 100000 in
set_option maxHeartbeats 1000000 in
theorem two_alike (v : Value) (l : List Duo) (S : Nat → Prop) (w : World) (h : DuoIn S w v l) (hl : l.length ≤ 100000) (q : Bool) (hq : q = true ↔ Alike l) :
    Calls Tryz.prog 83 #[v] w fun e w' => e = .returned (.bool q) ∧ Below w.heap.size w w' := by
  obtain ⟨a, cap, rfl, hc⟩ := h
  have HC : Hid (∀ m, m + 1 < l.length → ∃ g o x y, a = some ⟨g, o, none⟩ ∧ g < w.heap.size ∧ w.cell? ⟨g, o + ((m + 1) * 2 + 1), none⟩ = some (.int .i64 x) ∧ w.cell? ⟨g, o + (m * 2 + 1), none⟩ = some (.int .i64 y) ∧ (x = y ↔ ∃ hk : m + 1 < l.length, l[m].2 = l[m + 1].2)) := fun m hk => by
    obtain ⟨g, o, rfl, -, hg, hcs⟩ := hc (by omega)
    exact ⟨g, o, _, _, rfl, hg, (hcs (m + 1) hk).2, (hcs m (by omega)).2, fun e => ⟨hk, e.symm⟩, fun ⟨_, e⟩ => e.symm⟩
  have HA : Hid (Alike l ↔ ∃ m, m + 1 < l.length ∧ ∃ hk : m + 1 < l.length, l[m].2 = l[m + 1].2) := ⟨fun ⟨k, hk, e⟩ => ⟨k, hk, hk, e⟩, fun ⟨k, _, hk, e⟩ => ⟨k, hk, e⟩⟩
  obtain ⟨A, hA⟩ : ∃ A : Nat → Prop, (fun m => ∃ hk : m + 1 < l.length, l[m].2 = l[m + 1].2) = A := ⟨_, rfl⟩
  have hAm : ∀ m, (∃ hk : m + 1 < l.length, l[m].2 = l[m + 1].2) = A m := fun m => congrFun hA m
  simp only [hAm] at HC HA
  obtain ⟨n, hn⟩ : ∃ n, l.length = n := ⟨_, rfl⟩
  obtain ⟨AL, hAL⟩ : ∃ AL, Alike l = AL := ⟨_, rfl⟩
  rw [hn] at hl HC HA ⊢
  rw [hAL] at HA hq
  have HQ : Hid (q = true ↔ AL) := hq
  clear hA hAm hc hn hAL hq
  go_enter Tryz.func83, Tryz.ntmps83
  go_wp2_with fail
  go_loopw [3] (fun p W => ∃ m : Nat, (m = 0 ∨ m + 1 ≤ n) ∧ p = .int .i64 ((m : Int) + 1) ∧ Below w.heap.size w W ∧ ∀ j, j < m → ¬ A j) (fun p _ => n + 1 - (intOf p).toNat)
  case atStart => exact ⟨0, .inl rfl, by simp, Below.refl _ _, fun j hj => by omega⟩
  case round =>
    obtain ⟨m, hm, rfl, hB, hno⟩ := hrel
    have HB : Hid (Below w.heap.size w wr) := hB
    have HNO : Hid (∀ j, j < m → ¬ A j) := hno
    clear hB hno
    by_cases hlt : m + 1 < n
    · obtain ⟨g, o, x, y, rfl, hg, g1, g2, hxy⟩ := HC.out m hlt
      have g1' : wr.cell? ⟨g, o + (m + 1) * 2 + 1, none⟩ = some (.int .i64 x) := (HB.out.cell (p := ⟨g, o + ((m + 1) * 2 + 1), none⟩) hg).trans g1
      have g2' : wr.cell? ⟨g, o + m * 2 + 1, none⟩ = some (.int .i64 y) := (HB.out.cell (p := ⟨g, o + (m * 2 + 1), none⟩) hg).trans g2
      have HXY : Hid (x = y ↔ A m) := hxy
      have hlt2 : (m : Int) + 1 < (n : Int) := by omega
      have hw1 : IntKind.i64.wrap ((m : Int) + 1 - 1) = (m : Int) := by rw [show (m : Int) + 1 - 1 = (m : Int) by omega]; exact wrapI (by omega) (by omega)
      have h00 : (0 : Int) ≤ (m : Int) + 1 := by omega
      have h01 : ((m : Int) + 1).toNat = m + 1 := by omega
      clear g1 g2 hxy hm
      by_cases e : x = y
      · have hb : (x == y) = true := beq_iff_eq.2 e
        obtain rfl : q = true := HQ.out.2 (HA.out.2 ⟨m, hlt, HXY.out.1 e⟩)
        clear e
        go_wp2_with fail
        go_region
        have HBD := HB.out.drew
        go_wp2_with fail
        go_ret
        exact ⟨rfl, HBD⟩
      · have hb : (x == y) = false := beq_false_of_ne e
        have HN2 : Hid (∀ j, j < m + 1 → ¬ A j) := fun j hj => by
          rcases Nat.lt_or_ge j m with h | h
          · exact HNO.out j h
          · obtain rfl : m = j := by omega
            exact fun h => e (HXY.out.2 h)
        clear e
        go_wp2_with fail
        go_region
        have HBD := HB.out.drew
        go_wp2_with fail
        go_roundw
        case rel => exact ⟨m + 1, .inr (by omega), by go_num, HBD, HN2.out⟩
        case measure => simp [intOf]; omega
    · have hlt2 : ¬ ((m : Int) + 1 < (n : Int)) := by omega
      obtain rfl : q = false := by
        cases q with
        | false => rfl
        | true =>
          obtain ⟨j, hj, hA⟩ := HA.out.1 (HQ.out.1 rfl)
          exact absurd hA (HNO.out j (by omega))
      clear hm hlt
      go_wp2_with fail
      go_ret
      exact ⟨rfl, HB.out⟩

end Go.Proofs.YtmndhclmhjmbpaaGreatDoor
