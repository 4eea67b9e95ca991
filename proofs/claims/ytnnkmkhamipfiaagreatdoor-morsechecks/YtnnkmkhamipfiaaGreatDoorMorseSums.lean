/- What has, onlyOver, cut and cutPair answer and do. Graphs without circles: pairs that go away over and over, a walk in depth: no program is spoken of. Sums of paths: those above 0 and those below apart; each path by itself: both come to one number. No program is spoken of. -/
import Derived.Test.YtnnkmkhamipfiaaGreatDoorMorseUnder
import Derived.Deep.DeepCutAuto
import Derived.Test.YtnnkmkhamipfiaaGreatDoorMath2
namespace Go.Proofs.YtnnkmkhamipfiaaGreatDoor
open Go.RowKit Go.Sort

/-- The five cells of a rest in a variable. -/
theorem rest_cells (w : World) (a b c d e : Value) (t : TypeId) : ∀ j u, [a, b, c, d, e][j]? = some u → (w.alloc (.cells #[a, b, c, d, e] t)).cell? ⟨w.heap.size, j, none⟩ = some u := fun j u hu => by
  have := cells_new w [a, b, c, d, e] t j u hu
  rwa [Addr.add_lit, Nat.zero_add] at this

set_option maxRecDepth 100000 in
theorem has_ (f : Int) (n : Nat) (_hn : n ≤ 600) (ad aS ao : Option Addr) (cd cs co : Nat) (w : World) :
    Calls Tryz.prog 95 #[shapeV n ad aS ao cd cs co, .int .i64 f] w fun e w' => e = .returned (.bool (decide (0 ≤ f ∧ f < (n : Int)))) ∧ Below w.heap.size w w' := by
  have hBa : Below w.heap.size w (w.alloc (.cells #[.slice ad n cd, .slice aS n cs, .slice ao n co] 79)) := (Below.refl _ w).alloc (Nat.le_refl _) _
  have c0 : (w.alloc (.cells #[.slice ad n cd, .slice aS n cs, .slice ao n co] 79)).cell? ⟨w.heap.size, 0, none⟩ = some (.slice ad n cd) := by
    have := cells_new w [.slice ad n cd, .slice aS n cs, .slice ao n co] 79 0 _ rfl
    rwa [Addr.add_lit, Nat.zero_add] at this
  unfold shapeV
  by_cases h0 : 0 ≤ f
  · by_cases h1 : f < (n : Int)
    · rw [decide_eq_true ⟨h0, h1⟩]
      go_enter Tryz.func95, Tryz.ntmps95
      go_wp2
      go_ret
      exact ⟨rfl, hBa⟩
    · rw [decide_eq_false fun h => h1 h.2]
      go_enter Tryz.func95, Tryz.ntmps95
      go_wp2
      go_ret
      exact ⟨rfl, hBa⟩
  · rw [decide_eq_false fun h => h0 h.1]
    go_enter Tryz.func95, Tryz.ntmps95
    go_wp2
    go_ret
    exact ⟨rfl, hBa⟩

/-- What onlyOver answers. -/
def OnlySays (L : List (List Int)) (left : Nat → Bool) (f : Int) (w : World) (e : Ending) (w' : World) : Prop :=
  Below w.heap.size w w' ∧ ((∃ i k : Nat, f = (i : Int) ∧ i < L.length ∧ ovL L left i = [k] ∧ e = .returned (.tuple #[.int .i64 (k : Int), .bool true])) ∨
    ((∀ i : Nat, f = (i : Int) → i < L.length → ∀ k, ovL L left i ≠ [k]) ∧ e = .returned (.tuple #[.int .i64 0, .bool false])))

theorem overI_get {L : List (List Int)} {i j : Nat} (h : j < (ovD L allD i).length) : (overI L i)[j]? = some (((ovD L allD i)[j] : Nat) : Int) := by
  unfold overI
  rw [List.getElem?_map, List.getElem?_eq_getElem h]; rfl

set_option maxRecDepth 100000 in
set_option maxHeartbeats 2000000 in
theorem only_over {B : Nat} {L : List (List Int)} {ad aS ao : Option Addr} {cd cs co gl gc : Nat} {left : Nat → Bool} (f : Int) (w : World) (h : RestAt B w L ad aS ao cd cs co gl gc left) (hL6 : L.length ≤ 600) :
    Calls Tryz.prog 93 #[restV L.length ad aS ao cd cs co gl gc, .int .i64 f] w fun e w' => OnlySays L left f w e w' := by
  have HR : Hid (RestAt B w L ad aS ao cd cs co gl gc left) := h
  obtain ⟨n, hn⟩ : ∃ n, L.length = n := ⟨_, rfl⟩
  have HNN : Hid (L.length = n) := hn
  have hBa : Below w.heap.size w (w.alloc (.cells #[.slice ad n cd, .slice aS n cs, .slice ao n co, .slice (some ⟨gl, 0, none⟩) n n, .slice (some ⟨gc, 0, none⟩) n n] 101)) := (Below.refl _ w).alloc (Nat.le_refl _) _
  have hce := rest_cells w (.slice ad n cd) (.slice aS n cs) (.slice ao n co) (.slice (some ⟨gl, 0, none⟩) n n) (.slice (some ⟨gc, 0, none⟩) n n) 101
  have c0 := hce 0 _ rfl
  have c1 := hce 1 _ rfl
  have c2 := hce 2 _ rfl
  have c3 := hce 3 _ rfl
  have c4 := hce 4 _ rfl
  have hha := has_ f n (by omega) ad aS ao cd cs co (w.alloc (.cells #[.slice ad n cd, .slice aS n cs, .slice ao n co, .slice (some ⟨gl, 0, none⟩) n n, .slice (some ⟨gc, 0, none⟩) n n] 101))
  unfold restV
  unfold shapeV at hha
  rw [hn] at hL6 ⊢
  clear h hce hn
  go_enter Tryz.func93, Tryz.ntmps93
  go_upto_region 1 with fail
  obtain ⟨X, hX⟩ : ∃ X, w.alloc (.cells #[.slice ad n cd, .slice aS n cs, .slice ao n co, .slice (some ⟨gl, 0, none⟩) n n, .slice (some ⟨gc, 0, none⟩) n n] 101) = X := ⟨_, rfl⟩
  obtain ⟨xb, hxb⟩ : ∃ xb, w.heap.size = xb := ⟨_, rfl⟩
  have hxl : xb < X.heap.size := by rw [← hX, ← hxb]; simp
  rw [hX] at hha
  rw [hX, hxb] at c0 c1 c2 c3 c4 hBa
  try rw [hX]
  try rw [hxb]
  have HXB : Hid (w.heap.size = xb) := hxb
  have HRX : Hid (RestAt B X L ad aS ao cd cs co gl gc left) := HR.out.below (by rw [hxb]; exact hBa)
  clear hX hxb HR
  by_cases hin : 0 ≤ f ∧ f < (n : Int)
  · rw [decide_eq_true hin] at hha
    obtain ⟨i, rfl⟩ : ∃ i : Nat, f = (i : Int) := ⟨f.toNat, by omega⟩
    have hi : i < n := by omega
    clear hin
    by_cases hone : ∃ k, ovL L left i = [k]
    · have hcn : ((ovL L left i).length : Int) = 1 := int_one.2 hone
      have HON : Hid (∃ k, ovL L left i = [k]) := hone
      obtain ⟨ao', co', eo, -, hov⟩ := HRX.out.shape.over.open_
      rw [oversI_len, HNN.out] at eo hov
      cases eo
      obtain ⟨bo, oo, rfl, hbB, hbl, hrows⟩ := hov (by omega)
      obtain ⟨a1, p1, g1, i1⟩ := hrows i hi
      rw [oversI_at (by rw [HNN.out]; exact hi)] at g1 i1
      obtain ⟨m, hm⟩ : ∃ m, (overI L i).length = m := ⟨_, rfl⟩
      have hmL : (ovD L allD i).length = m := by rw [← hm]; simp [overI]
      have HML : Hid ((ovD L allD i).length = m) := hmL
      have hm6 : m ≤ 600 := by rw [← hmL]; refine Nat.le_trans (List.length_filter_le _ _) ?_; rw [List.length_range, HNN.out]; exact hL6
      rw [hm] at g1 i1
      have HI1 : Hid (IntsIn (fun b => b < B) X (.slice a1 m p1) (overI L i)) := i1
      clear hov hrows i1 hm hmL hone
      go_upto_region 4 with (go_at_call 95; refine hha.mono ?_; rintro e V ⟨rfl, hV⟩; have HV : Hid (Below X.heap.size X V) := hV; have HRV := Hid.mk' (HRX.out.below hV); have d2 := (hV.cell (p := ⟨xb, 2, none⟩) hxl).trans c2; have d3 := (hV.cell (p := ⟨xb, 3, none⟩) hxl).trans c3; have d4 := (hV.cell (p := ⟨xb, 4, none⟩) hxl).trans c4; have dc := HRV.out.counts.cell (i := i) (by rw [HNN.out]; exact hi); rw [hcn] at dc; have e1 := (hV.cell (p := ⟨bo, oo + i, none⟩) hbl).trans g1; clear hV hha)
      go_wp2_with fail
      go_loopw [28] (fun p W => ∃ j : Nat, j ≤ m ∧ p = .int .i64 j ∧ W = V ∧ Hid (∀ q x, q < j → (ovD L allD i)[q]? = some x → left x = false)) (fun p _ => m - (intOf p).toNat)
      case atStart => exact ⟨0, by omega, rfl, rfl, fun q x hq => by omega⟩
      case round =>
        obtain ⟨j, hj, rfl, rfl, HNL⟩ := hrel
        by_cases hjm : j < m
        · obtain ⟨x, hx⟩ : ∃ x, (ovD L allD i)[j]? = some x := ⟨_, List.getElem?_eq_getElem (by rw [HML.out]; exact hjm)⟩
          obtain ⟨a', c', ea, -, hax⟩ := HI1.out.open_
          have hol : (overI L i).length = m := by rw [← HML.out]; simp [overI]
          rw [hol] at ea hax
          cases ea
          obtain ⟨bx, ox, rfl, -, hbx, hxc⟩ := hax (by omega)
          have k1 := (HV.out.cell (p := ⟨bx, ox + j, none⟩) hbx).trans (hxc j hjm)
          have hxe : (overI L i)[j]?.getD 0 = (x : Int) := by unfold overI; rw [List.getElem?_map, hx]; rfl
          rw [hxe] at k1
          have hxm : x ∈ ovD L allD i := List.mem_iff_getElem?.2 ⟨j, hx⟩
          have hxn : x < n := by
            have := (List.mem_filter.1 hxm).1
            rw [List.mem_range, HNN.out] at this; exact this
          have hxu := (List.mem_filter.1 hxm).2
          have k2 := HRV.out.lefts.cell (i := x) (by rw [HNN.out]; exact hxn)
          have HXU : Hid (underB (faceAt L i) (faceAt L x) = true) := by
            rw [Bool.and_eq_true] at hxu; exact hxu.1
          have HXJ : Hid ((ovD L allD i)[j]? = some x) := hx
          have z0 : (0 : Int) ≤ (x : Int) := by omega
          have z1 : (x : Int) < (n : Int) := by omega
          have z2 : (j : Int) < (m : Int) := by omega
          clear hax hxc hxe hxm hxu hx
          cases hlx : left x with
          | true =>
            rw [hlx] at k2
            have HLX : Hid (left x = true) := hlx
            clear hlx
            go_wp2_with fail
            go_ret2
            unfold OnlySays
            rw [HXB.out]
            refine ⟨hBa.trans (HV.out.mono (by omega)), .inl ⟨i, x, rfl, by rw [HNN.out]; exact hi, ?_, rfl⟩⟩
            obtain ⟨k, hk⟩ := HON.out
            have hxo : x ∈ ovL L left i := by
              unfold ovL
              rw [List.mem_filter, List.mem_range, Bool.and_eq_true]
              exact ⟨by rw [HNN.out]; exact hxn, HXU.out, HLX.out⟩
            rw [hk] at hxo
            rw [hk, List.mem_singleton.1 hxo]
          | false =>
            rw [hlx] at k2
            have HN2 : Hid (∀ q y, q < j + 1 → (ovD L allD i)[q]? = some y → left y = false) := fun q y hq hy => by
              rcases Nat.lt_or_ge q j with h | h
              · exact HNL.out q y h hy
              · obtain rfl : q = j := by omega
                rw [HXJ.out] at hy; cases hy; exact hlx
            clear hlx
            go_wp2_with fail
            go_roundw
            case rel => exact ⟨j + 1, by omega, by go_num, (by first | trivial | rfl), HN2.out⟩
            case measure => simp [intOf]; omega
        · exfalso
          obtain rfl : j = m := by omega
          obtain ⟨k, hk⟩ := HON.out
          have hkm : k ∈ ovL L left i := by rw [hk]; exact .head _
          obtain ⟨h1, h2⟩ := List.mem_filter.1 hkm
          rw [Bool.and_eq_true] at h2
          have hkd : k ∈ ovD L allD i := List.mem_filter.2 ⟨h1, by rw [h2.1]; rfl⟩
          obtain ⟨q, hq⟩ := List.mem_iff_getElem?.1 hkd
          have hql : q < j := by rw [← HML.out]; exact (List.getElem?_eq_some_iff.1 hq).1
          have := HNL.out q k hql hq
          rw [h2.2] at this; cases this
    · obtain ⟨cn, hcn⟩ : ∃ cn : Int, ((ovL L left i).length : Int) = cn := ⟨_, rfl⟩
      have hc1 : (cn != 1) = true := by
        rw [bne_iff_ne, ← hcn]
        exact fun e => hone (int_one.1 e)
      have HNO : Hid (∀ j : Nat, ((i : Nat) : Int) = (j : Int) → j < L.length → ∀ k, ovL L left j ≠ [k]) := fun j e _ k hk => by
        obtain rfl : i = j := by omega
        exact hone ⟨k, hk⟩
      clear hone
      go_wp2_with (first
        | (go_at_call 95; refine hha.mono ?_; rintro e V ⟨rfl, hV⟩; have HV : Hid (Below X.heap.size X V) := hV; have HRV := Hid.mk' (HRX.out.below hV); have d2 := (hV.cell (p := ⟨xb, 2, none⟩) hxl).trans c2; have d3 := (hV.cell (p := ⟨xb, 3, none⟩) hxl).trans c3; have d4 := (hV.cell (p := ⟨xb, 4, none⟩) hxl).trans c4; have dc := HRV.out.counts.cell (i := i) (by rw [HNN.out]; exact hi); rw [hcn] at dc; clear hV hha)
        | fail)
      go_ret2
      unfold OnlySays
      rw [HXB.out]
      exact ⟨hBa.trans (HV.out.mono (by omega)), .inr ⟨HNO.out, rfl⟩⟩
  · rw [decide_eq_false hin] at hha
    have HNO : Hid (∀ i : Nat, f = (i : Int) → i < L.length → ∀ k, ovL L left i ≠ [k]) := fun i e hi => by rw [HNN.out] at hi; exact absurd (by omega) hin
    clear hin
    go_wp2_with (first
      | (go_at_call 95; refine hha.mono ?_; rintro e V ⟨rfl, hV⟩; have HV : Hid (Below xb w V) := hBa.trans (hV.mono (by omega)); clear hV)
      | fail)
    go_ret2
    unfold OnlySays
    rw [HXB.out]
    exact ⟨HV.out, .inr ⟨HNO.out, rfl⟩⟩

end Go.Proofs.YtnnkmkhamipfiaaGreatDoor

namespace Go.Proofs.YtnnkmkhamipfiaaGreatDoor

/-- A graph that goes down by a number below N. -/
def RankedN (E : Nat → Nat → Prop) (N : Nat) : Prop := ∃ ρ : Nat → Nat, (∀ i, ρ i < N) ∧ ∀ i k, E i k → ρ k < ρ i

theorem no_circle {E : Nat → Nat → Prop} {N : Nat} (h : RankedN E N) : ∀ c, ¬ Relation.TransGen E c c := by
  obtain ⟨ρ, _, h⟩ := h
  have hk : ∀ a b, Relation.TransGen E a b → ρ b < ρ a := by
    intro a b hab
    induction hab with
    | single h1 => exact h _ _ h1
    | tail _ h1 ih => exact Nat.lt_trans (h _ _ h1) ih
  exact fun c hc => absurd (hk c c hc) (Nat.lt_irrefl _)

/-- Those of whom each leads to another of them: no number goes down. -/
theorem no_rank {E : Nat → Nat → Prop} {N : Nat} (S : Nat → Prop) (h : ∀ i, S i → ∃ k, S k ∧ E i k) {i : Nat} (hi : S i) : ¬ RankedN E N := by
  rintro ⟨ρ, _, hρ⟩
  have hk : ∀ n i, ρ i < n → S i → False := by
    intro n
    induction n with
    | zero => exact fun i h => absurd h (Nat.not_lt_zero _)
    | succ n ih =>
      intro i h1 h2
      obtain ⟨k, hk, he⟩ := h i h2
      have := hρ i k he
      exact ih k (by omega) hk
  exact hk (ρ i + 1) i (Nat.lt_succ_self _) hi

/-! Pairs that go away, over and over. -/

/-- How many are gone. -/
def goneN (g : Nat → Bool) (n : Nat) : Nat := ((List.range n).filter g).length
theorem goneN_succ (g : Nat → Bool) (n : Nat) : goneN g (n + 1) = goneN g n + (if g n then 1 else 0) := by
  unfold goneN
  rw [List.range_succ, List.filter_append, List.length_append]
  cases h : g n <;> simp [h]
theorem goneN_le (g : Nat → Bool) (n : Nat) : goneN g n ≤ n := by
  have := List.length_filter_le g (List.range n)
  rw [List.length_range] at this
  exact this
theorem goneN_put {g : Nat → Bool} {i : Nat} (hg : g i = false) : ∀ n, goneN (fun k => if k = i then true else g k) n = goneN g n + (if i < n then 1 else 0)
  | 0 => by simp [goneN]
  | n + 1 => by
    rw [goneN_succ, goneN_succ, goneN_put hg n]
    rcases Nat.lt_trichotomy i n with h | h | h
    · have e : ¬ n = i := by omega
      have h2 : i < n + 1 := by omega
      simp only [e, h, h2, if_true, if_false]; omega
    · subst h; simp [hg]
    · have e : ¬ n = i := by omega
      have h1 : ¬ i < n := by omega
      have h2 : ¬ i < n + 1 := by omega
      simp only [e, h1, h2, if_false]; omega
theorem goneN_none (n : Nat) : goneN (fun _ => false) n = 0 := by simp [goneN]
theorem goneN_all {g : Nat → Bool} {n : Nat} (h : goneN g n = n) : ∀ i, i < n → g i = true := by
  intro i hi
  cases hb : g i with
  | true => rfl
  | false =>
    have h1 := goneN_put hb n
    have h2 := goneN_le (fun k => if k = i then true else g k) n
    rw [if_pos hi] at h1
    omega
theorem goneN_some {g : Nat → Bool} {n : Nat} (h : goneN g n < n) : ∃ i, i < n ∧ g i = false := by
  have : ((List.range n).filter g).length < (List.range n).length := by rw [List.length_range]; exact h
  obtain ⟨i, h1, h2⟩ := List.length_filter_lt_length_iff_exists.1 this
  exact ⟨i, List.mem_range.1 h1, by simpa using h2⟩

/-- Those that are gone go down by numbers. -/
def GoneDown (E : Nat → Nat → Prop) (g : Nat → Bool) (n : Nat) : Prop := ∃ ρ : Nat → Nat, (∀ i, ρ i < goneN g n + 1) ∧ ∀ i, i < n → g i = true → ρ i < goneN g n ∧ ∀ k, E i k → k < n → g k = true ∧ ρ k < ρ i

theorem gone_none (E : Nat → Nat → Prop) (n : Nat) : GoneDown E (fun _ => false) n := ⟨fun _ => 0, fun _ => Nat.succ_pos _, fun i _ h => by cases h⟩
theorem gone_put {E : Nat → Nat → Prop} {g : Nat → Bool} {n i : Nat} (h : GoneDown E g n) (hi : i < n) (hg : g i = false) (he : ∀ k, E i k → k < n → g k = true) (hs : ¬ E i i) : GoneDown E (fun k => if k = i then true else g k) n := by
  obtain ⟨ρ, h1, h2⟩ := h
  have hc := goneN_put hg n
  rw [if_pos hi] at hc
  refine ⟨fun k => if k = i then goneN g n else ρ k, fun k => ?_, fun j hj hgj => ?_⟩
  · by_cases e : k = i
    · simp only [e, if_true]; rw [hc]; omega
    · simp only [e, if_false]; have := h1 k; rw [hc]; omega
  · by_cases e : j = i
    · subst e
      refine ⟨by simp only [if_true]; rw [hc]; omega, fun k hk hkn => ?_⟩
      have hki : k ≠ j := fun e => hs (e ▸ hk)
      have hgk := he k hk hkn
      have := (h2 k hkn hgk).1
      simp only [hki, if_true, if_false]
      exact ⟨hgk, this⟩
    · simp only [e, if_false] at hgj ⊢
      obtain ⟨h3, h4⟩ := h2 j hj hgj
      refine ⟨by rw [hc]; omega, fun k hk hkn => ?_⟩
      obtain ⟨h5, h6⟩ := h4 k hk hkn
      have hki : k ≠ i := fun e => by subst e; rw [hg] at h5; cases h5
      simp only [hki, if_false]
      exact ⟨h5, h6⟩
/-- All are gone: no circle. -/
theorem gone_all {E : Nat → Nat → Prop} {g : Nat → Bool} {n : Nat} (h : GoneDown E g n) (hn : goneN g n = n) (hE : ∀ i k, E i k → i < n ∧ k < n) : RankedN E (n + 1) := by
  obtain ⟨ρ, h1, h2⟩ := h
  exact ⟨ρ, fun i => by have := h1 i; omega, fun i k hik => ((h2 i (hE i k hik).1 (goneN_all hn i (hE i k hik).1)).2 k hik (hE i k hik).2).2⟩
/-- Some stay, and each leads to another: a circle. -/
theorem gone_not {E : Nat → Nat → Prop} {g : Nat → Bool} {n N : Nat} (hn : goneN g n < n) (h : ∀ i, i < n → g i = false → ∃ k, k < n ∧ g k = false ∧ E i k) : ¬ RankedN E N := by
  obtain ⟨i, hi, hg⟩ := goneN_some hn
  refine no_rank (fun i => i < n ∧ g i = false) (fun i hi => ?_) (i := i) ⟨hi, hg⟩
  obtain ⟨k, h1, h2, h3⟩ := h i hi.1 hi.2
  exact ⟨k, ⟨h1, h2⟩, h3⟩

/-! A walk in depth: 0 fresh, 1 on the way, 2 done. -/

/-- What is done goes down. -/
def DoneDown (F : Nat → Nat → Prop) (A : Nat → Prop) (st : Nat → Nat) (N : Nat) : Prop := ∃ ρ : Nat → Nat, ∀ f, st f = 2 → ρ f < N ∧ ∀ x, F f x → A x → st x = 2 ∧ ρ x < ρ f
/-- From one state to a later one. -/
structure Later (st st' : Nat → Nat) : Prop where
  way : ∀ f, st' f = 1 ↔ st f = 1
  done : ∀ f, st f = 2 → st' f = 2
  fresh : ∀ f, st' f = 0 → st f = 0
theorem Later.refl (st : Nat → Nat) : Later st st := ⟨fun _ => Iff.rfl, fun _ h => h, fun _ h => h⟩
theorem Later.trans {a b c : Nat → Nat} (h : Later a b) (h' : Later b c) : Later a c := ⟨fun f => (h'.way f).trans (h.way f), fun f hf => h'.done f (h.done f hf), fun f hf => h.fresh f (h'.fresh f hf)⟩
/-- How many are done, how many fresh. -/
def freshN (st : Nat → Nat) (n : Nat) : Nat := goneN (fun f => decide (st f = 0)) n
theorem goneN_mono {g g' : Nat → Bool} (h : ∀ i, g i = true → g' i = true) : ∀ n, goneN g n ≤ goneN g' n
  | 0 => by simp [goneN]
  | n + 1 => by
    rw [goneN_succ, goneN_succ]
    have := goneN_mono h n
    cases hb : g n with
    | false => simp only [Bool.false_eq_true, if_false]; omega
    | true => rw [h n hb]; simp only [if_true]; omega
theorem Later.freshN {st st' : Nat → Nat} (h : Later st st') (n : Nat) : freshN st' n ≤ freshN st n := goneN_mono (fun i hi => by rw [decide_eq_true_eq] at hi ⊢; exact h.fresh i hi) n
abbrev putN (st : Nat → Nat) (f v : Nat) : Nat → Nat := fun k => if k = f then v else st k
theorem fresh_put {st : Nat → Nat} {f n : Nat} (hf : f < n) (h0 : st f = 0) : freshN (putN st f 1) n + 1 = freshN st n := by
  have h1 := goneN_put (g := fun k => decide (putN st f 1 k = 0)) (i := f) (by simp [putN]) n
  rw [if_pos hf] at h1
  unfold freshN
  rw [← h1]
  congr 1
  funext k
  by_cases e : k = f
  · simp [e, h0]
  · simp [e, putN]
/-- A face is set on the way: what is done stays. -/
theorem done_way {F : Nat → Nat → Prop} {A : Nat → Prop} {st : Nat → Nat} {N f : Nat} (h : DoneDown F A st N) (h0 : st f = 0) : DoneDown F A (putN st f 1) N := by
  obtain ⟨ρ, h⟩ := h
  refine ⟨ρ, fun g hg => ?_⟩
  have hgf : g ≠ f := fun e => by simp [putN, e] at hg
  simp only [putN, hgf, if_false] at hg
  obtain ⟨h1, h2⟩ := h g hg
  refine ⟨h1, fun x hx ha => ?_⟩
  obtain ⟨h3, h4⟩ := h2 x hx ha
  have hxf : x ≠ f := fun e => by rw [e, h0] at h3; cases h3
  exact ⟨by simp only [putN, hxf, if_false]; exact h3, h4⟩
/-- A face is done, when all that it leads to are. -/
theorem done_put {F : Nat → Nat → Prop} {A : Nat → Prop} {st : Nat → Nat} {N f : Nat} (h : DoneDown F A st N) (h1 : st f = 1) (hf : ∀ x, F f x → A x → st x = 2) : DoneDown F A (putN st f 2) (N + 1) := by
  obtain ⟨ρ, h⟩ := h
  refine ⟨fun k => if k = f then N else ρ k, fun g hg => ?_⟩
  have hx2 : ∀ x, st x = 2 → x ≠ f := fun x hx e => by rw [e, h1] at hx; cases hx
  by_cases e : g = f
  · subst e
    refine ⟨by simp, fun x hx ha => ?_⟩
    have h2 := hf x hx ha
    have h3 := hx2 x h2
    simp only [putN, h3, if_false, if_true]
    exact ⟨h2, (h x h2).1⟩
  · simp only [putN, e, if_false] at hg ⊢
    obtain ⟨h2, h3⟩ := h g hg
    refine ⟨by omega, fun x hx ha => ?_⟩
    obtain ⟨h4, h5⟩ := h3 x hx ha
    simp only [hx2 x h4, if_false]
    exact ⟨h4, h5⟩
/-- From a face that is set on the way, through its later states, until it is done. -/
theorem later_done {st st1 : Nat → Nat} {f : Nat} (h0 : st f = 0) (h : Later (putN st f 1) st1) : Later st (putN st1 f 2) := by
  have hf : st1 f = 1 := (h.way f).2 (by simp [putN])
  refine ⟨fun g => ?_, fun g hg => ?_, fun g hg => ?_⟩
  · by_cases e : g = f
    · simp [putN, e, h0]
    · have := h.way g
      simpa [putN, e] using this
  · have e : g ≠ f := fun e => by rw [e, h0] at hg; cases hg
    have := h.done g (by simp [putN, e, hg])
    simpa [putN, e] using this
  · by_cases e : g = f
    · simp [putN, e] at hg
    · have h1 := h.fresh g (by simpa [putN, e] using hg)
      simpa [putN, e] using h1
/-- All that lead on are done: no circle. -/
theorem done_all {F : Nat → Nat → Prop} {A : Nat → Prop} {st : Nat → Nat} {N : Nat} (h : DoneDown F A st N) (ha : ∀ f x, F f x → A f) (hd : ∀ f, A f → st f = 2) : RankedN F (N + 1) := by
  obtain ⟨ρ, h⟩ := h
  classical
  refine ⟨fun f => if A f then ρ f + 1 else 0, fun f => ?_, fun f x hx => ?_⟩
  · by_cases e : A f
    · simp only [e, if_true]; have := (h f (hd f e)).1; omega
    · simp only [e, if_false]; omega
  · have hf := ha f x hx
    simp only [hf, if_true]
    by_cases e : A x
    · simp only [e, if_true]; have := ((h f (hd f hf)).2 x hx e).2; omega
    · simp only [e, if_false]; omega

end Go.Proofs.YtnnkmkhamipfiaaGreatDoor

namespace Go.Proofs.YtnnkmkhamipfiaaGreatDoor

/-- What is above 0 and what is below, apart: turned over by a sign; added. -/
def swp (s : Int) (p : Nat × Nat) : Nat × Nat := if s < 0 then (p.2, p.1) else p
def addP (p q : Nat × Nat) : Nat × Nat := (p.1 + q.1, p.2 + q.2)
def netP (p : Nat × Nat) : Int := (p.1 : Int) - (p.2 : Int)

/-- From a face down to its sides but one. -/
def stepP (sg : Nat → Nat → Int) (P : Nat → Nat × Nat) (b : Nat) (but : Int) (s : Nat × Nat) (x : Nat) : Nat × Nat := if (x : Int) = but then s else addP s (swp (sg b x) (P x))
def downP (sg : Nat → Nat → Int) (sd : Nat → List Nat) (P : Nat → Nat × Nat) (b : Nat) (but : Int) : Nat × Nat := (sd b).foldl (stepP sg P b but) (0, 0)
/-- From a face on, with what is told of the next ones. -/
def fromP (up : Nat → Option Nat) (sg : Nat → Nat → Int) (sd : Nat → List Nat) (goal : Nat) (P : Nat → Nat × Nat) (a : Nat) : Nat × Nat :=
  if a = goal then (1, 0) else match up a with
    | none => (0, 0)
    | some b => swp (-(sg b a)) (downP sg sd P b (a : Int))
def PEq (up : Nat → Option Nat) (sg : Nat → Nat → Int) (sd : Nat → List Nat) (goal : Nat) (P : Nat → Nat × Nat) : Prop := ∀ a, P a = fromP up sg sd goal P a
/-- Where a face leads to. -/
def Leads (up : Nat → Option Nat) (sd : Nat → List Nat) (a x : Nat) : Prop := ∃ b, up a = some b ∧ x ∈ sd b ∧ x ≠ a

theorem foldl_step {sg : Nat → Nat → Int} {P Q : Nat → Nat × Nat} {b : Nat} {but : Int} : ∀ (l : List Nat) (s : Nat × Nat), (∀ x ∈ l, (x : Int) ≠ but → P x = Q x) → l.foldl (stepP sg P b but) s = l.foldl (stepP sg Q b but) s
  | [], _, _ => rfl
  | x :: l, s, h => by
    have h1 : stepP sg P b but s x = stepP sg Q b but s x := by
      unfold stepP
      by_cases e : (x : Int) = but
      · rw [if_pos e, if_pos e]
      · rw [if_neg e, if_neg e, h x (.head _) e]
    rw [List.foldl_cons, List.foldl_cons, h1]
    exact foldl_step l _ fun y hy => h y (.tail _ hy)
theorem downP_congr {sg : Nat → Nat → Int} {sd : Nat → List Nat} {P Q : Nat → Nat × Nat} {b : Nat} {but : Int} (h : ∀ x ∈ sd b, (x : Int) ≠ but → P x = Q x) : downP sg sd P b but = downP sg sd Q b but := foldl_step _ _ h
theorem fromP_congr {up : Nat → Option Nat} {sg : Nat → Nat → Int} {sd : Nat → List Nat} {goal a : Nat} {P Q : Nat → Nat × Nat} (h : ∀ x, Leads up sd a x → P x = Q x) : fromP up sg sd goal P a = fromP up sg sd goal Q a := by
  unfold fromP
  by_cases e : a = goal
  · rw [if_pos e, if_pos e]
  · rw [if_neg e, if_neg e]
    cases hu : up a with
    | none => rfl
    | some b =>
      simp only
      rw [downP_congr fun x hx hn => h x ⟨b, hu, hx, fun e => hn (by rw [e])⟩]

def pathsTo (up : Nat → Option Nat) (sg : Nat → Nat → Int) (sd : Nat → List Nat) (goal : Nat) : Nat → Nat → Nat × Nat
  | 0, _ => (0, 0)
  | k + 1, a => fromP up sg sd goal (pathsTo up sg sd goal k) a
theorem paths_more {up : Nat → Option Nat} {sg : Nat → Nat → Int} {sd : Nat → List Nat} {goal : Nat} {ρ : Nat → Nat} (h : ∀ a x, Leads up sd a x → ρ x < ρ a) : ∀ (k a : Nat), ρ a < k → pathsTo up sg sd goal (k + 1) a = pathsTo up sg sd goal k a
  | 0, _, hk => absurd hk (Nat.not_lt_zero _)
  | k + 1, a, hk => fromP_congr fun x hx => paths_more h k x (by have := h a x hx; omega)
/-- The sums of all paths to a face, and their size. -/
theorem paths_ex (up : Nat → Option Nat) (sg : Nat → Nat → Int) (sd : Nat → List Nat) {N : Nat} (h : RankedN (Leads up sd) N) (goal : Nat) {m : Nat} (hm : ∀ b, (sd b).length ≤ m) (hm1 : 1 ≤ m) :
    ∃ P, PEq up sg sd goal P ∧ ∀ a, (P a).1 + (P a).2 ≤ m ^ N := by
  obtain ⟨ρ, h1, h2⟩ := h
  refine ⟨pathsTo up sg sd goal N, fun a => (paths_more h2 N a (h1 a)).symm, ?_⟩
  have hsw : ∀ s (p : Nat × Nat), (swp s p).1 + (swp s p).2 = p.1 + p.2 := by
    intro s p
    unfold swp
    by_cases e : s < 0
    · rw [if_pos e]; exact Nat.add_comm _ _
    · rw [if_neg e]
  have hfold : ∀ (P : Nat → Nat × Nat) (M b : Nat) (but : Int), (∀ x, (P x).1 + (P x).2 ≤ M) → ∀ (l : List Nat) (s : Nat × Nat), (l.foldl (stepP sg P b but) s).1 + (l.foldl (stepP sg P b but) s).2 ≤ s.1 + s.2 + l.length * M := by
    intro P M b but hP l
    induction l with
    | nil => intro s; simp
    | cons x l ih =>
      intro s
      rw [List.foldl_cons, List.length_cons, Nat.succ_mul]
      have h3 := ih (stepP sg P b but s x)
      have h4 : (stepP sg P b but s x).1 + (stepP sg P b but s x).2 ≤ s.1 + s.2 + M := by
        unfold stepP
        by_cases e : (x : Int) = but
        · rw [if_pos e]; omega
        · rw [if_neg e]
          have := hsw (sg b x) (P x)
          have := hP x
          simp only [addP]
          omega
      omega
  have : ∀ k a, (pathsTo up sg sd goal k a).1 + (pathsTo up sg sd goal k a).2 ≤ m ^ k := by
    intro k
    induction k with
    | zero => intro a; simp [pathsTo]
    | succ k ih =>
      intro a
      have hpos : 1 ≤ m ^ (k + 1) := Nat.one_le_pow _ _ hm1
      unfold pathsTo fromP
      by_cases e : a = goal
      · rw [if_pos e]; exact hpos
      · rw [if_neg e]
        cases hu : up a with
        | none => simp only; omega
        | some b =>
          simp only
          rw [hsw]
          have h3 := hfold (pathsTo up sg sd goal k) (m ^ k) b (a : Int) ih (sd b) (0, 0)
          have h4 : (sd b).length * m ^ k ≤ m * m ^ k := Nat.mul_le_mul_right _ (hm b)
          rw [Nat.pow_succ, Nat.mul_comm]
          unfold downP
          simp only at h3
          omega
  exact this N

/-! The same, each path by itself: what comes out. -/

/-- The signs to the first faces, times what is told of them. -/
def wsum (u : Nat → Bool) (sg V : Nat → Int) (but : Int) : Nat → Int
  | 0 => 0
  | k + 1 => wsum u sg V but k + if (k : Int) ≠ but ∧ u k = true then sg k * V k else 0
theorem net_swp {s : Int} (hs : s = 1 ∨ s = -1) (p : Nat × Nat) : netP (swp s p) = s * netP p := by
  rcases hs with rfl | rfl
  · unfold swp; rw [if_neg (by decide)]; omega
  · unfold swp netP; rw [if_pos (by decide)]; simp only; omega
theorem net_add (p q : Nat × Nat) : netP (addP p q) = netP p + netP q := by unfold netP addP; simp only; omega
theorem net_down {sg : Nat → Nat → Int} {P : Nat → Nat × Nat} {b : Nat} {but : Int} {u : Nat → Bool} (hs : ∀ x, u x = true → sg b x = 1 ∨ sg b x = -1) : ∀ n, netP (((List.range n).filter u).foldl (stepP sg P b but) (0, 0)) = wsum u (sg b) (fun x => netP (P x)) but n
  | 0 => rfl
  | n + 1 => by
    rw [List.range_succ, List.filter_append, List.foldl_append]
    unfold wsum
    rw [← net_down hs n]
    generalize List.foldl (stepP sg P b but) (0, 0) (List.filter u (List.range n)) = s
    by_cases hu : u n = true
    · rw [List.filter_cons, if_pos hu, List.filter_nil, List.foldl_cons, List.foldl_nil]
      unfold stepP
      by_cases e : (n : Int) = but
      · rw [if_pos e, if_neg (fun h => h.1 e)]; omega
      · rw [if_neg e, if_pos ⟨e, hu⟩, net_add, net_swp (hs n hu)]
    · rw [List.filter_cons, if_neg hu, List.filter_nil, List.foldl_nil, if_neg (fun h => hu h.2)]; omega
/-- What a face's paths come to, one after another. -/
theorem net_from {up : Nat → Option Nat} {sg : Nat → Nat → Int} {sd : Nat → List Nat} {goal n : Nat} {P : Nat → Nat × Nat} {u : Nat → Nat → Bool} (h : PEq up sg sd goal P) (hd : ∀ b, sd b = (List.range n).filter fun x => u x b) (hs : ∀ b x, u x b = true → sg b x = 1 ∨ sg b x = -1) {a b : Nat} (hu : up a = some b) (hab : u a b = true) (ha : a ≠ goal) :
    netP (P a) = -(sg b a) * wsum (fun x => u x b) (sg b) (fun x => netP (P x)) (a : Int) n := by
  have e := h a
  unfold fromP at e
  rw [if_neg ha, hu] at e
  simp only at e
  rw [e, net_swp (by rcases hs b a hab with h | h <;> rw [h] <;> decide)]
  unfold downP
  rw [hd b, net_down (hs b) n]
theorem net_col {sg : Nat → Nat → Int} {sd : Nat → List Nat} {n : Nat} {P : Nat → Nat × Nat} {u : Nat → Nat → Bool} (hd : ∀ b, sd b = (List.range n).filter fun x => u x b) (hs : ∀ b x, u x b = true → sg b x = 1 ∨ sg b x = -1) (b : Nat) (but : Int) :
    netP (downP sg sd P b but) = wsum (fun x => u x b) (sg b) (fun x => netP (P x)) but n := by
  unfold downP
  rw [hd b, net_down (hs b) n]
theorem from_goal {up : Nat → Option Nat} {sg : Nat → Nat → Int} {sd : Nat → List Nat} {goal : Nat} {P : Nat → Nat × Nat} (h : PEq up sg sd goal P) : netP (P goal) = 1 := by rw [h goal]; unfold fromP; rw [if_pos rfl]; rfl
theorem from_none {up : Nat → Option Nat} {sg : Nat → Nat → Int} {sd : Nat → List Nat} {goal : Nat} {P : Nat → Nat × Nat} (h : PEq up sg sd goal P) {a : Nat} (ha : a ≠ goal) (hu : up a = none) : netP (P a) = 0 := by rw [h a]; unfold fromP; rw [if_neg ha, hu]; rfl

end Go.Proofs.YtnnkmkhamipfiaaGreatDoor
