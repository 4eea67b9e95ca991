/- Small numbers are not wrapped. A slice is appended onto a row of the call's own, as a step of a region that draws its order. What the reference's small readers answer: SameInts, Contains, Ahead, PartOf, SameLists; nothing is written. What the reference's readers of faces answer: Ahead, PartOf, SameLists; nothing is written. -/
import Derived.Test.YthdmfeidcldafaaGreatDoorBase
import Derived.Deep.RegionLaw
import Derived.Deep.AppendLies
import Derived.BigQuiet
import Derived.Deep.QuietTactic
namespace Go.Proofs.YthdmfeidcldafaaGreatDoor
open Go.RowKit

theorem wrapI {x : Int} (h0 : -10000000 ≤ x) (h1 : x ≤ 10000000) : IntKind.i64.wrap x = x := by rw [IntKind.wrap_i64]; omega
theorem Hid.mk' {p : Prop} (h : p) : Hid p := h

end Go.Proofs.YthdmfeidcldafaaGreatDoor

namespace Go.Proofs.YthdmfeidcldafaaGreatDoor
open Go.RowKit Go.Sort

/-- A slice is appended onto a row of the call's own, as a run. -/
theorem run_append_slice {P : Program} (w : World) (t ty : TypeId) (base : Nat) (e : TypeId) (i : TypeInfo) (z : Value) (bytes : Nat) (ht : P.underlying t = some (.slice e)) (hi : P.info? e = some i) (hz : i.zero = some z)
    (hsize : i.size = 1) (hby : i.bytes = bytes) (hzs : z.cells.size = 1) (v : Value) (n : Nat) (xs : List Value) (hown : w.ownsRow base e 1 v n xs)
    {S : Nat → Prop} (u : Value) (news : List Value) (hu : SliceIn S w u news) (h1 : ∀ c ∈ news, c.oneCell' = true)
    (hbytes : (n + news.length) * bytes ≤ 140737488355328) (h63 : n + news.length ≤ maxLen) (hbase : base ≤ w.heap.size) :
    ∃ v' w', (Builtin.append_ #[t, t] ty #[v, u]).run P w = .ok v' w' ∧ w'.ownsRow base e 1 v' (n + news.length) (xs ++ news) ∧ w.grownBy w' v.ownBlock ∧ (v'.ownBlock = v.ownBlock ∨ v'.ownBlock = some w.heap.size) := by
  obtain ⟨ao, cap, rfl, ⟨hc, hn⟩, hcs⟩ := hu
  cases ao with
  | none =>
    obtain rfl := hn rfl
    have hnil : news = [] := List.eq_nil_of_length_eq_zero (by omega)
    subst hnil
    exact ⟨v, w, run_append_owned_none (P := P) (w := w) base t ty e i 1 ht hi v n xs hown, by simpa using hown, ⟨rfl, rfl, rfl, Nat.le_refl _, fun _ _ _ => rfl⟩, .inl rfl⟩
  | some ad =>
    obtain ⟨v', w', hr, h2, h3, _, h5⟩ := run_append_own_at (P := P) w base t ty e i z 1 bytes ht hi hz hsize hby hzs (by decide) v n xs hown ad news.length cap news (by simp) (fun j c hj => by
      have hl : 0 < news.length := by
        have := (List.getElem?_eq_some_iff.1 hj).1
        omega
      obtain ⟨b, off, e1, _, e3⟩ := hcs hl
      cases e1
      rw [Addr.add_lit]
      exact e3 j c hj) h1 h63 hbytes hbase
    exact ⟨v', w', hr, h2, h3, h5⟩

/-- The same at a step of a region that draws its order. -/
theorem step_append_slice {P : Program} {w : World} {ops : Array Oper} {o : Oper} {a : Act} {K : Act → World → Prop} {Q : Exit → Act → World → Prop} {E : Prop} (hgd : o.guard = none) (s x : Operand) (t : TypeId)
    (ho : o.op = .call { callee := .builtin .append, args := #[s, x], argTypes := #[t, t] })
    (base : Nat) (e : TypeId) (i : TypeInfo) (z : Value) (bytes : Nat) (ht : P.underlying t = some (.slice e)) (hi : P.info? e = some i) (hz : i.zero = some z)
    (hsize : i.size = 1) (hby : i.bytes = bytes) (hzs : z.cells.size = 1) (v : Value) (n : Nat) (xs : List Value) (hs : a.eval s = v) (hown : w.ownsRow base e 1 v n xs)
    {S : Nat → Prop} (u : Value) (news : List Value) (hx : a.eval x = u) (hu : SliceIn S w u news) (h1 : ∀ c ∈ news, c.oneCell' = true)
    (hbytes : (n + news.length) * bytes ≤ 140737488355328) (h63 : n + news.length ≤ maxLen) (hbase : base ≤ w.heap.size)
    (h : ∀ v' w', w'.ownsRow base e 1 v' (n + news.length) (xs ++ news) → w.grownBy w' v.ownBlock → (v'.ownBlock = v.ownBlock ∨ v'.ownBlock = some w.heap.size) → K (a.put o.dst v') w') :
    if Region.wanted o (yielded ops a.tmps) = true then Oper.wp P o a w K Q else E := by
  have hw : Region.wanted o (yielded ops a.tmps) = true := by simp [Region.wanted, hgd]
  rw [if_pos hw]
  obtain ⟨v', w', hr, h2, h3, h4⟩ := run_append_slice (P := P) w t o.type base e i z bytes ht hi hz hsize hby hzs v n xs hown u news hu h1 hbytes h63 hbase
  unfold Oper.wp execOp
  simp only [ho, resolve, invoke, builtin, Sem.run_bind, Sem.run_pure, Result.andThen_ok, List.map_toArray, List.map_cons, List.map_nil, hs, hx, hr]
  exact h v' w' h2 h3 h4

end Go.Proofs.YthdmfeidcldafaaGreatDoor

namespace Go.Proofs.YthdmfeidcldafaaGreatDoor
open Go.RowKit Go.Sort

theorem take_snoc {xs ys : List Int} {k : Nat} (h : xs.take k = ys.take k) (hx : k < xs.length) (hy : k < ys.length) (e : xs[k]?.getD 0 = ys[k]?.getD 0) : xs.take (k + 1) = ys.take (k + 1) := by
  rw [List.take_add_one, List.take_add_one, h]
  simp [hx, hy] at e
  simp [hx, hy, e]

theorem ne_at {xs ys : List Int} {k : Nat} (e : ¬ xs[k]?.getD 0 = ys[k]?.getD 0) : xs ≠ ys := fun h => e (by rw [h])

theorem same_ints (va vb : Value) (xs ys : List Int) (w : World) (ha : Ints w va xs) (hb : Ints w vb ys) (hx : xs.length ≤ 1000000) :
    Calls Tryz.prog 35 #[va, vb] w fun e w' => e = .returned (.bool (decide (xs = ys))) ∧ ∃ q, w' = w.drewN q := by
  obtain ⟨a, ca, rfl, -, ha⟩ := ha.open_
  obtain ⟨b, cb, rfl, -, hb⟩ := hb.open_
  by_cases hl : xs.length = ys.length
  · rw [← hl]
    go_enter Tryz.func35, Tryz.ntmps35
    go_wp2
    go_loopw [5] (fun v W => ∃ k q : Nat, k ≤ xs.length ∧ v = .int .i64 k ∧ W = w.drewN q ∧ xs.take k = ys.take k) (fun v _ => xs.length - (intOf v).toNat)
    case atStart => exact ⟨0, 0, by omega, rfl, rfl, by simp⟩
    case round =>
      obtain ⟨k, q, hk, rfl, rfl, ht⟩ := hrel
      have HT : Hid (xs.take k = ys.take k) := ht
      have HL : Hid (xs.length = ys.length) := hl
      have hy' : k < xs.length → k < ys.length := by omega
      clear ht hl
      by_cases hlt : k < xs.length
      · obtain ⟨b1, o1, rfl, -, -, c1⟩ := ha (by omega)
        obtain ⟨b2, o2, rfl, -, -, c2⟩ := hb (by have := hy' hlt; omega)
        have g1 := c1 k hlt
        have g2 := c2 k (hy' hlt)
        clear c1 c2 ha hb
        obtain ⟨x, hxe⟩ : ∃ x, xs[k]?.getD 0 = x := ⟨_, rfl⟩
        obtain ⟨y, hye⟩ : ∃ y, ys[k]?.getD 0 = y := ⟨_, rfl⟩
        rw [hxe] at g1
        rw [hye] at g2
        have HX : Hid (xs[k]?.getD 0 = x) := hxe
        have HY : Hid (ys[k]?.getD 0 = y) := hye
        clear hxe hye
        by_cases heq : x = y
        · subst heq
          go_wp2_with fail
          go_quiet (fail)
          go_wp2
          go_roundw
          case rel => exact ⟨k + 1, _, by omega, by go_num, rfl, take_snoc HT.out hlt (hy' hlt) (HX.out.trans HY.out.symm)⟩
          case measure => simp [intOf]; omega
        · have hne : (x != y) = true := by simpa using heq
          have HE : Hid (¬ x = y) := heq
          clear heq
          go_wp2_with fail
          go_quiet (fail)
          go_wp2
          go_ret
          exact ⟨by rw [decide_eq_false (ne_at (fun h => HE.out (by rw [← HX.out, ← HY.out, h])))]; rfl, q + nq, by rw [World.drewN_drewN]⟩
      · clear ha hb
        go_wp2
        go_ret
        refine ⟨?_, q, rfl⟩
        have h1 := HT.out
        have h2 := HL.out
        rw [List.take_of_length_le (by omega), List.take_of_length_le (by omega)] at h1
        rw [decide_eq_true h1]; rfl
  · have hne : xs ≠ ys := fun h => hl (by rw [h])
    go_enter Tryz.func35, Tryz.ntmps35
    clear ha hb
    go_wp2
    go_ret
    exact ⟨by rw [decide_eq_false hne]; rfl, 0, rfl⟩

theorem contains_upto {xs : List Int} {k : Nat} {n : Int} (h : ∀ j, j < k → ¬ xs[j]?.getD 0 = n) (hk : k = xs.length) : xs.contains n = false := by
  rw [← Bool.not_eq_true, List.contains_iff_mem]
  intro hm
  obtain ⟨j, hj, e⟩ := List.getElem_of_mem hm
  exact h j (by omega) (by simp [hj, e])
theorem contains_at {xs : List Int} {k : Nat} {n : Int} (hk : k < xs.length) (h : xs[k]?.getD 0 = n) : xs.contains n = true := by
  rw [List.contains_iff_mem]
  simp [hk] at h
  exact List.mem_of_getElem h

theorem contains_ (va : Value) (xs : List Int) (n : Int) (w : World) (ha : Ints w va xs) (hx : xs.length ≤ 1000000) :
    Calls Tryz.prog 61 #[va, .int .i64 n] w fun e w' => e = .returned (.bool (xs.contains n)) ∧ ∃ q, w' = w.drewN q := by
  obtain ⟨a, ca, rfl, -, ha⟩ := ha.open_
  go_enter Tryz.func61, Tryz.ntmps61
  go_wp2
  go_loopw [5] (fun v W => ∃ k q : Nat, k ≤ xs.length ∧ v = .int .i64 k ∧ W = w.drewN q ∧ ∀ j, j < k → ¬ xs[j]?.getD 0 = n) (fun v _ => xs.length - (intOf v).toNat)
  case atStart => exact ⟨0, 0, by omega, rfl, rfl, fun j hj => by omega⟩
  case round =>
    obtain ⟨k, q, hk, rfl, rfl, ht⟩ := hrel
    have HT : Hid (∀ j, j < k → ¬ xs[j]?.getD 0 = n) := ht
    clear ht
    by_cases hlt : k < xs.length
    · obtain ⟨b1, o1, rfl, -, -, c1⟩ := ha (by omega)
      have g1 := c1 k hlt
      clear c1 ha
      obtain ⟨x, hxe⟩ : ∃ x, xs[k]?.getD 0 = x := ⟨_, rfl⟩
      rw [hxe] at g1
      have HX : Hid (xs[k]?.getD 0 = x) := hxe
      clear hxe
      by_cases heq : x = n
      · subst heq
        go_wp2
        go_ret
        exact ⟨by rw [contains_at hlt HX.out]; rfl, _, rfl⟩
      · have hne : (x == n) = false := by simpa using heq
        have HE : Hid (¬ x = n) := heq
        clear heq
        go_wp2
        go_roundw
        case rel => exact ⟨k + 1, _, by omega, by go_num, rfl, fun j hj => by
          by_cases e : j = k
          · subst e; rw [HX.out]; exact HE.out
          · exact HT.out j (by omega)⟩
        case measure => simp [intOf]; omega
    · clear ha
      go_wp2
      go_ret
      exact ⟨by rw [contains_upto HT.out (by omega)]; rfl, q, rfl⟩

end Go.Proofs.YthdmfeidcldafaaGreatDoor

namespace Go.Proofs.YthdmfeidcldafaaGreatDoor
open Go.RowKit Go.Sort

theorem ahead_at : ∀ (k : Nat) (xs ys : List Int), xs.take k = ys.take k → ∀ (hx : k < xs.length) (hy : k < ys.length), xs[k] ≠ ys[k] → ahead xs ys = decide (xs[k] < ys[k])
  | _, [], _, _, hx, _, _ => absurd hx (by simp)
  | _, _ :: _, [], _, _, hy, _ => absurd hy (by simp)
  | 0, x :: xs, y :: ys, _, _, _, h => by
    simp at h
    simp [ahead, h]
  | k + 1, x :: xs, y :: ys, ht, hx, hy, h => by
    simp at ht h
    obtain ⟨rfl, ht⟩ := ht
    simp only [ahead, if_pos, List.getElem_cons_succ]
    exact ahead_at k xs ys ht (by simpa using hx) (by simpa using hy) h

theorem ahead_end : ∀ (k : Nat) (xs ys : List Int), xs.take k = ys.take k → (xs.length ≤ k ∨ ys.length ≤ k) → ahead xs ys = decide (xs.length < ys.length)
  | _, [], [], _, _ => by simp [ahead]
  | _, [], _ :: _, _, _ => by simp [ahead]
  | _, _ :: _, [], _, _ => by simp [ahead]
  | 0, _ :: _, _ :: _, _, h => by simp at h
  | k + 1, x :: xs, y :: ys, ht, h => by
    simp at ht h
    obtain ⟨rfl, ht⟩ := ht
    simp only [ahead, if_pos, List.length_cons, Nat.add_lt_add_iff_right]
    exact ahead_end k xs ys ht h

theorem ahead_ (va vb : Value) (xs ys : List Int) (w : World) (ha : Ints w va xs) (hb : Ints w vb ys) (hx : xs.length ≤ 1000000) :
    Calls Tryz.prog 45 #[va, vb] w fun e w' => e = .returned (.bool (ahead xs ys)) ∧ ∃ q, w' = w.drewN q := by
  obtain ⟨a, ca, rfl, -, ha⟩ := ha.open_
  obtain ⟨b, cb, rfl, -, hb⟩ := hb.open_
  go_enter Tryz.func45, Tryz.ntmps45
  go_wp2
  go_loopw [5] (fun v W => ∃ k q : Nat, k ≤ xs.length ∧ v = .int .i64 k ∧ W = w.drewN q ∧ xs.take k = ys.take k) (fun v _ => xs.length - (intOf v).toNat)
  case atStart => exact ⟨0, 0, by omega, rfl, rfl, by simp⟩
  case round =>
    obtain ⟨k, q, hk, rfl, rfl, ht⟩ := hrel
    have HT : Hid (xs.take k = ys.take k) := ht
    clear ht
    by_cases hlt : k < xs.length
    · by_cases hlu : k < ys.length
      · obtain ⟨b1, o1, rfl, -, -, c1⟩ := ha (by omega)
        obtain ⟨b2, o2, rfl, -, -, c2⟩ := hb (by omega)
        have g1 := c1 k hlt
        have g2 := c2 k hlu
        clear c1 c2 ha hb
        obtain ⟨x, hxe⟩ : ∃ x, xs[k]?.getD 0 = x := ⟨_, rfl⟩
        obtain ⟨y, hye⟩ : ∃ y, ys[k]?.getD 0 = y := ⟨_, rfl⟩
        rw [hxe] at g1
        rw [hye] at g2
        have HX : Hid (xs[k]?.getD 0 = x) := hxe
        have HY : Hid (ys[k]?.getD 0 = y) := hye
        clear hxe hye
        by_cases heq : x = y
        · subst heq
          go_wp2_with fail
          go_quiet (fail)
          go_wp2
          go_roundw
          case rel => exact ⟨k + 1, _, by omega, by go_num, rfl, take_snoc HT.out hlt hlu (HX.out.trans HY.out.symm)⟩
          case measure => simp [intOf]; omega
        · have hne : (x != y) = true := by simpa using heq
          have HE : Hid (¬ x = y) := heq
          clear heq
          go_wp2_with fail
          go_quiet (fail)
          go_wp2_with fail
          go_quiet (fail)
          go_wp2
          go_ret
          refine ⟨?_, by simp only [World.drewN_drewN]; exact ⟨_, rfl⟩⟩
          have h1 : xs[k] = x := by have := HX.out; simpa [hlt] using this
          have h2 : ys[k] = y := by have := HY.out; simpa [hlu] using this
          rw [ahead_at k xs ys HT.out hlt hlu (by rw [h1, h2]; exact HE.out), h1, h2]; rfl
      · clear ha hb
        go_wp2
        go_ret
        refine ⟨?_, q, rfl⟩
        rw [ahead_end k xs ys HT.out (by omega)]
        simp
    · clear ha hb
      go_wp2
      go_ret
      refine ⟨?_, q, rfl⟩
      rw [ahead_end k xs ys HT.out (by omega)]
      simp

theorem part_of (vf vg : Value) (f g : List Int) (w : World) (hf : Ints w vf f) (hg : Ints w vg g) (hx : f.length ≤ 1000000) (hy : g.length ≤ 1000000) :
    Calls Tryz.prog 46 #[vf, vg] w fun e w' => e = .returned (.bool (f.all (fun v => g.contains v))) ∧ ∃ q, w' = w.drewN q := by
  have HG : Hid (Ints w vg g) := hg
  clear hg
  obtain ⟨a, ca, rfl, -, ha⟩ := hf.open_
  go_enter Tryz.func46, Tryz.ntmps46
  go_wp2
  go_loopw [5] (fun v W => ∃ k q : Nat, k ≤ f.length ∧ v = .int .i64 k ∧ W = w.drewN q ∧ ∀ j, j < k → g.contains (f[j]?.getD 0) = true) (fun v _ => f.length - (intOf v).toNat)
  case atStart => exact ⟨0, 0, by omega, rfl, rfl, fun j hj => by omega⟩
  case round =>
    obtain ⟨k, q, hk, rfl, rfl, ht⟩ := hrel
    have HT : Hid (∀ j, j < k → g.contains (f[j]?.getD 0) = true) := ht
    clear ht
    by_cases hlt : k < f.length
    · obtain ⟨b1, o1, rfl, -, -, c1⟩ := ha (by omega)
      have g1 := c1 k hlt
      clear c1 ha hf
      obtain ⟨x, hxe⟩ : ∃ x, f[k]?.getD 0 = x := ⟨_, rfl⟩
      rw [hxe] at g1
      have HX : Hid (f[k]?.getD 0 = x) := hxe
      clear hxe
      have hc := contains_ vg g x (w.drewN q) HG.out hy
      obtain ⟨c, hce⟩ : ∃ c, g.contains x = c := ⟨_, rfl⟩
      rw [hce] at hc
      have HC : Hid (g.contains x = c) := hce
      clear hce
      cases c with
      | true =>
        go_wp2_with (go_at_call 61; refine hc.mono ?_; rintro e w' ⟨rfl, q2, rfl⟩)
        go_roundw
        case rel => exact ⟨k + 1, q + q2, by omega, by go_num, rfl, fun j hj => by
          by_cases e : j = k
          · subst e; rw [HX.out]; exact HC.out
          · exact HT.out j (by omega)⟩
        case measure => simp [intOf]; omega
      | false =>
        go_wp2_with (go_at_call 61; refine hc.mono ?_; rintro e w' ⟨rfl, q2, rfl⟩)
        go_ret
        refine ⟨?_, q + q2, rfl⟩
        have : f.all (fun v => g.contains v) = false := by
          rw [List.all_eq_false]
          refine ⟨x, ?_, by rw [HC.out]; simp⟩
          have := HX.out
          simp [hlt] at this
          exact List.mem_of_getElem this
        rw [this]; rfl
    · clear ha hf
      go_wp2
      go_ret
      refine ⟨?_, q, rfl⟩
      have : f.all (fun v => g.contains v) = true := by
        rw [List.all_eq_true]
        intro v hv
        obtain ⟨j, hj, e⟩ := List.getElem_of_mem hv
        have := HT.out j (by omega)
        simpa [hj, e] using this
      rw [this]; rfl

end Go.Proofs.YthdmfeidcldafaaGreatDoor
